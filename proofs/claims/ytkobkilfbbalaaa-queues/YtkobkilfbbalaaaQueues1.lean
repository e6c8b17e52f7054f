/-
  One step of a queue beside its list: Push.
  One step of a queue beside its list: Pop, Least, Len, and what does nothing.
  One step of a queue beside its list: Pop.
  Two queues beside their two lists.
  The walk of the statement Queues.
-/
import Derived.Test.YtkobkilfbbalaaaK03
namespace Go.Proofs.Ytkobkilfbbalaaa
open Go.RowKit Go.Sort Go.Maps

/-- what one step leaves -/
structure Step (w w' : World) (B qb mb : Nat) (dv dv' : Value) (ds ds' : List Day) (n' : Nat) (rest : Array Value) (Tq : TypeId) (width : Int) (pushed' : Nat) (lv lv' : Value) (l' : List It) (L' : List Ent) : Prop where
  pair : Pair w' B qb mb dv' n' ds' rest Tq width pushed' lv' l' L'
  kept : KeptF (PFoot qb mb dv ds lv) w w'
  foot : ∀ k, PFoot qb mb dv' ds' lv' k → PFoot qb mb dv ds lv k ∨ w.heap.size ≤ k

def StepPost (w : World) (B qb mb : Nat) (dv : Value) (ds : List Day) (rest : Array Value) (Tq : TypeId) (width : Int) (lv : Value) (P : Nat → List It → Prop) (e : Ending) (w' : World) : Prop :=
  ∃ dv' ds' n' pushed' lv' l' L', e = .returned (.tuple #[lv', .bool true]) ∧ Step w w' B qb mb dv dv' ds ds' n' rest Tq width pushed' lv lv' l' L' ∧ P pushed' l'

theorem kept_of_below {w w' : World} (h : Below w.heap.size w w') : KeptF (fun _ => False) w w' := KeptF.of_below h

/-- the pair behind a push into the queue and an append to the list -/
theorem Pair.pushed {w w3 w4 : World} {B qb mb : Nat} {dv dv' : Value} {n n' : Nat} {ds ds' : List Day} {rest : Array Value} {Tq : TypeId} {width : Int} {pushed : Nat} {lv lv' : Value} {l : List It} {L : List Ent} {x : It}
    (h : Pair w B qb mb dv n ds rest Tq width pushed lv l L) (ht : InInt x.t)
    (hQ : QCore w3 B qb mb dv' n' ds' rest Tq width ((L.length + 1 : Nat) : Int) ((pushed + 1 : Nat) : Int)) (hn : n' ≤ n + 1) (hA : (allEs ds').Perm (⟨x, pushed⟩ :: allEs ds)) (hF : Filled width ds')
    (hK : KeptF (Foot qb mb dv ds) w w3) (hft : ∀ k, Foot qb mb dv' ds' k → Foot qb mb dv ds k ∨ w.heap.size ≤ k) (hlt : ∀ k, Foot qb mb dv' ds' k → k < w3.heap.size)
    (hI : ISl w4 B lv' (l ++ [x])) (hg : KeptF (fun k => lv.ownBlock = some k) w3 w4) (hfr : ∀ g, lv'.ownBlock = some g → lv.ownBlock = some g ∨ w3.heap.size ≤ g) :
    Step w w4 B qb mb dv dv' ds ds' n' rest Tq width (pushed + 1) lv lv' (l ++ [x]) (L ++ [⟨x, pushed⟩]) := by
  have hlv : ∀ g, lv.ownBlock = some g → ¬ Foot qb mb dv' ds' g := by
    intro g hg' hf
    rcases hft g hf with h1 | h1
    · exact h.apartL g hg' h1
    · have := (h.list.lt hg').2; omega
  refine ⟨⟨?_, hF, ?_, ?_, ?_, ?_, ?_, hI, ?_, h.wid1, h.wid2, ?_, ?_⟩, ?_, ?_⟩
  · have := hQ.keep hg (fun i hi e => hlv i e hi)
    simpa using this
  · refine List.Perm.trans ?_ hA.symm
    exact (List.perm_append_singleton _ _).trans (h.perm.cons _)
  · rw [List.pairwise_append]
    refine ⟨h.sorted, by simp, fun a ha b hb => ?_⟩
    simp only [List.mem_cons, List.not_mem_nil, or_false] at hb
    subst hb
    exact (h.rank a ha).2
  · intro e he
    rcases List.mem_append.1 he with he | he
    · have := h.rank e he; omega
    · simp only [List.mem_cons, List.not_mem_nil, or_false] at he
      subst he
      simp only
      omega
  · simp [h.items]
  · intro e he
    rcases List.mem_append.1 he with he | he
    · exact h.inint e he
    · simp only [List.mem_cons, List.not_mem_nil, or_false] at he
      subst he
      exact ht
  · intro g hg' hf
    rcases hfr g hg' with h1 | h1
    · exact hlv g h1 hf
    · have := hlt g hf; omega
  · have := h.nle; omega
  · have := h.lenle; simp; omega
  · refine (hK.weaken (fun _ _ e => .inl e)).trans' hg (fun _ _ e => .inr e)
  · intro k hk
    rcases hk with hk | hk
    · rcases hft k hk with h1 | h1
      · exact .inl (.inl h1)
      · exact .inr h1
    · rcases hfr k hk with h1 | h1
      · exact .inl (.inr h1)
      · exact .inr (Nat.le_trans hK.size h1)

/-- what the first lines of a step have found -/
theorem least_cases {l : List It} {kk : Int} (h : LeastUpto l l.length kk) : (kk = -1 ∧ l = []) ∨ ∃ (j : Nat) (x : It), kk = j ∧ l[j]? = some x ∧ (∀ (m : Nat) (y : It), m < l.length → l[m]? = some y → ¬ y.lt x) ∧ (∀ (m : Nat) (y : It), m < j → l[m]? = some y → x.lt y) := by
  rcases h with ⟨h1, h2⟩ | ⟨j, x, h1, h2, h3, h4, h5⟩
  · exact .inl ⟨h2, List.eq_nil_of_length_eq_zero h1⟩
  · exact .inr ⟨j, x, h1, h3, h4, h5⟩

set_option maxRecDepth 100000 in
set_option maxHeartbeats 4000000 in
theorem played_push (w : World) (B qb mb : Nat) (dv : Value) (n : Nat) (ds : List Day) (rest : Array Value) (Tq : TypeId) (width : Int) (pushed : Nat) (lv : Value) (l : List It) (L : List Ent) (W : Int) (x : It)
    (h : Pair w B qb mb dv n ds rest Tq width pushed lv l L) (hBw : B ≤ w.heap.size) (hp : pushed < 2932031007317) (ht : InInt x.t) :
    Calls Try.prog 15 #[.pointer (some ⟨qb, 0, none⟩), lv, .agg #[.int .i64 1, .int .i64 W, .int .i64 x.t, .int .i64 x.f, .int .i64 x.s, .int .i64 x.l]] w
      (StepPost w B qb mb dv ds rest Tq width lv (fun p' l' => p' = pushed + 1 ∧ l'.length = l.length + 1)) := by
  obtain ⟨i0, hi0, hz0, hz1, hz2⟩ := info_parts info_ritem
  obtain ⟨hl1, hl2, hl3⟩ := h.lens
  have hll := h.lenle
  have hlv0 : ∃ ao cap, lv = .slice ao l.length cap := by
    rcases h.list.form with ⟨h1, h2⟩ | ⟨g, cap, h1, _⟩
    · rw [h2]; exact ⟨none, 0, h1⟩
    · exact ⟨_, _, h1⟩
  have hk0 : KeptF (fun _ => False) w (w.alloc (.cells #[.int .i64 1, .int .i64 W, .int .i64 x.t, .int .i64 x.f, .int .i64 x.s, .int .i64 x.l] 49)) := (KeptF.refl _ w).alloc _
  have hle := refLeast_any _ B lv l (h.list.keep hk0 (fun _ _ e => e)) (by omega)
  go_enter Try.func15, Try.ntmps15
  go_wp2_with fail
  refine hle.mono ?_
  rintro e w1 ⟨kk, rfl, hL, hb1⟩
  obtain ⟨hc1, hf1⟩ := bcell hb1
  have hs1 : w.heap.size < w1.heap.size := by have := hb1.size; simp at this; omega
  have hk1 : KeptF (fun _ => False) w w1 := hk0.trans (kept_of_below hb1)
  clear hle
  have hI1 := h.list.keep hk1 (fun _ _ e => e)
  have hop1 : Blk w1 w.heap.size #[.int .i64 1, .int .i64 W, .int .i64 x.t, .int .i64 x.f, .int .i64 x.s, .int .i64 x.l] 49 := by
    have hb : Blk (w.alloc (.cells #[.int .i64 1, .int .i64 W, .int .i64 x.t, .int .i64 x.f, .int .i64 x.s, .int .i64 x.l] 49)) w.heap.size #[.int .i64 1, .int .i64 W, .int .i64 x.t, .int .i64 x.f, .int .i64 x.s, .int .i64 x.l] 49 := heap_alloc_new w _
    exact hb.keep (kept_of_below hb1) (fun e => e)
  have o0 := hop1.cell 0
  have o2 := hop1.cell 2
  have o3 := hop1.cell 3
  have o4 := hop1.cell 4
  have o5 := hop1.cell 5
  simp only [List.getElem?_toArray, List.getElem?_cons_zero, List.getElem?_cons_succ] at o0 o2 o3 o4 o5
  clear hc1 hf1
  have hcase : ∃ u0 u1 u2 u3 : Int, ((kk = -1 ∧ u0 = 0 ∧ u1 = 0 ∧ u2 = 0 ∧ u3 = 0) ∨ ∃ (j : Nat) (g cap : Nat), kk = j ∧ lv = .slice (some ⟨g, 0, none⟩) l.length cap ∧ j < l.length ∧ w1.cell? ⟨g, j * 4, none⟩ = some (.int .i64 u0) ∧ w1.cell? ⟨g, j * 4 + 1, none⟩ = some (.int .i64 u1) ∧ w1.cell? ⟨g, j * 4 + 2, none⟩ = some (.int .i64 u2) ∧ w1.cell? ⟨g, j * 4 + 3, none⟩ = some (.int .i64 u3)) := by
    rcases least_cases hL with ⟨rfl, hnil⟩ | ⟨j, y, rfl, hy, _, _⟩
    · exact ⟨0, 0, 0, 0, .inl ⟨rfl, rfl, rfl, rfl, rfl⟩⟩
    · rcases hI1.form with ⟨_, h2⟩ | ⟨g, cap, h1, _⟩
      · rw [h2] at hy; simp at hy
      · rw [h1] at hI1
        obtain ⟨e0, e1, e2, e3⟩ := hI1.cells hy
        exact ⟨y.t, y.f, y.s, y.l, .inr ⟨j, g, cap, rfl, h1, get_lt hy, e0, e1, e2, e3⟩⟩
  have hcell : ∀ (W : World) (o : Obj) (p : Nat) (j : Nat) (u : Value), (itsC [x])[j]? = some u → (W.alloc (.cells #[.int .i64 x.t, .int .i64 x.f, .int .i64 x.s, .int .i64 x.l] 47)).cell? ((⟨W.heap.size, 0, none⟩ : Addr).add j) = some u := by
    intro W _ _ j u hu
    have hb : Blk (W.alloc (.cells #[.int .i64 x.t, .int .i64 x.f, .int .i64 x.s, .int .i64 x.l] 47)) W.heap.size #[.int .i64 x.t, .int .i64 x.f, .int .i64 x.s, .int .i64 x.l] 47 := heap_alloc_new W _
    have ha : ((⟨W.heap.size, 0, none⟩ : Addr).add j) = ⟨W.heap.size, j, none⟩ := by simp [Addr.add]; omega
    rw [ha, hb.cell, ← hu]
    simp [itsC, itC]
  obtain ⟨u0, u1, u2, u3, hcase⟩ := hcase
  have hpair := h
  have hq := fun W hk => qpush_any W B qb mb dv n ds rest Tq width L.length pushed x (h.core.keep (w' := W) (G := fun _ => False) hk (fun _ _ e => e)) h.filled
  have hnf : ¬ Foot qb mb dv ds w.heap.size := fun hk => by have := (h.core.foot_lt hk).2; omega
  have hIl := h.list
  have hnle := h.nle
  have hw1 := h.wid1
  have hw2 := h.wid2
  have hapl := h.apartL
  clear h hL hI1
  have Hrest : Hid (l.length = L.length) := hl3
  clear hl3
  rcases hcase with ⟨rfl, rfl, rfl, rfl, rfl⟩ | ⟨j, g, cap, rfl, hlv, hj, d0, d1, d2, d3⟩
  case' inr =>
    subst hlv
    have hgl : g < w1.heap.size := block_lt_of_cell d0
  all_goals
    go_wp2_with fail
    refine (item_any x _).mono ?_
    rintro e w2 ⟨rfl, hb2⟩
    have hk2 : KeptF (fun _ => False) w w2 := (hk1.alloc _).trans (kept_of_below hb2)
    have hop2 := hop1.keep (((KeptF.refl (fun _ => False) w1).alloc _).trans (kept_of_below hb2)) (fun e => e)
    have hs2 : w.heap.size < w2.heap.size := by have := hb2.size; simp at this; omega
    clear o0 o2 o3 o4 o5 hb2
    go_wp2_with fail
    refine (hq _ (hk2.alloc _) (by simp; have := hk2.size; omega) hw1 hw2 ht (by omega) (by omega) (by omega) hp (fun y hy => by have := hl2 y hy; omega)).mono ?_
    rintro e w3 ⟨rfl, dv', n', ds', hQ3, hn3, hA3, hF3, hK3, hft3, hlen3⟩
    have hop3 := (hop2.alloc _).keep hK3 hnf
    have o2 := hop3.cell 2
    have o3 := hop3.cell 3
    have o4 := hop3.cell 4
    have o5 := hop3.cell 5
    simp only [List.getElem?_toArray, List.getElem?_cons_zero, List.getElem?_cons_succ] at o2 o3 o4 o5
    have hKw : KeptF (Foot qb mb dv ds) w w3 := ((hk2.alloc _).weaken (fun _ _ e => e.elim)).trans hK3
    have hI3 := hIl.keep hKw hapl
    have hlt3 := fun k hk => (hQ3.foot_lt (k := k) hk).2
    clear hq hop2 hop1
    go_wp2_with (at_builtin; refine wpList_append_ownX rfl (.tmp 37) (.tmp 40) 50 rfl B 47 i0 _ 4 32 Try.underlying50 hi0 hz0 hz1 hz2 rfl (by decide) _ l.length (itsC l) rfl ?own ⟨w3.heap.size, 0, none⟩ 1 1 (itsC [x]) rfl rfl ?cells ?one ?b1 ?b2 ?hb ?k)
    case own => exact ownsRow_keep hI3 (F := fun _ => False) ((KeptF.refl _ _).alloc _) (fun _ _ e => e)
    case cells => exact hcell w3 default 0
    case one => exact itsC_one [x]
    case b1 => unfold maxLen; have := Hrest.out; omega
    case b2 => have := Hrest.out; omega
    case hb => simp; have := hKw.size; omega
    case k =>
      intro lv' w4 hown4 hgr4 hfr4
      go_wp2
      go_ret2
      have hI4 : ISl w4 B lv' (l ++ [x]) := by
        unfold ISl
        rw [itsC_append, List.length_append]
        first | exact hown4 | (rw [Hrest.out]; exact hown4)
      refine ⟨dv', ds', n', pushed + 1, lv', l ++ [x], L ++ [⟨x, pushed⟩], rfl, Pair.pushed hpair ht hQ3 hn3 hA3 hF3 hKw (fun k hk => (hft3 k hk).imp id (fun h' => ?_)) hlt3 hI4 ?_ ?_, rfl, by simp⟩
      · have := (hk2.alloc (.cells #[.int .i64 x.t, .int .i64 x.f, .int .i64 x.s, .int .i64 x.l] 102)).size
        omega
      · exact ((KeptF.refl _ w3).alloc _).trans (KeptF.of_grown hgr4 (fun k hk _ => hk))
      · intro g' hg'
        refine (hfr4 g' hg').imp id (fun h' => ?_)
        have : w3.heap.size + 1 ≤ g' := by simpa using h'
        omega

end Go.Proofs.Ytkobkilfbbalaaa

namespace Go.Proofs.Ytkobkilfbbalaaa
open Go.RowKit Go.Sort Go.Maps

section
variable {w w' : World} {B qb mb : Nat} {dv : Value} {n : Nat} {ds : List Day} {rest : Array Value} {Tq : TypeId} {width : Int} {pushed : Nat} {lv : Value} {l : List It} {L : List Ent}

/-- nothing has turned but new blocks -/
theorem Pair.idle (h : Pair w B qb mb dv n ds rest Tq width pushed lv l L) (k : KeptF (fun _ => False) w w') : Step w w' B qb mb dv dv ds ds n rest Tq width pushed lv lv l L :=
  ⟨h.keep k (fun _ _ e => e), k.weaken (fun _ _ e => e.elim), fun _ hk => .inl hk⟩

/-- a list that is not empty: the queue's first day has an entry -/
theorem Pair.front (h : Pair w B qb mb dv n ds rest Tq width pushed lv l L) {j : Nat} {y : It} (hy : l[j]? = some y) (h1 : ∀ (m : Nat) (z : It), m < l.length → l[m]? = some z → ¬ z.lt y) (h2 : ∀ (m : Nat) (z : It), m < j → l[m]? = some z → y.lt z) :
    ∃ x r e es c, ds = x :: r ∧ x.es = e :: es ∧ L[j]? = some e ∧ e.it = y ∧ L.length = c + 1 := by
  have hjl : j < l.length := get_lt hy
  have hlen := h.lens.2.2
  cases hds : ds with
  | nil =>
    have hL0 : L.length = 0 := by rw [h.perm.length_eq, hds]; rfl
    omega
  | cons x r =>
    have hF := h.filled
    rw [hds] at hF
    cases hes : x.es with
    | nil => exact absurd hes (hF x (by simp)).1
    | cons e es =>
      have hmin := QCore.top_least (hds ▸ h.core) h.wid1 hF hes
      have hmin' : ∀ a ∈ L, a.ltB e = false := fun a ha => hmin a (by rw [← hds]; exact h.perm.mem_iff.1 ha)
      have heL : e ∈ L := h.perm.mem_iff.2 (by rw [hds]; simp [allEs, hes])
      have hit := h.items
      subst hit
      have hp := pick_same h.sorted heL hmin' hy h1 h2
      refine ⟨x, r, e, es, L.length - 1, rfl, hes, hp, ?_, by omega⟩
      rw [List.getElem?_map, hp] at hy
      simpa using hy

/-- the pair behind a pop and the list without its first least item -/
theorem Pair.popped {w2 w4 : World} {dv' lv' : Value} {ds' : List Day} {e : Ent} {j c : Nat} (h : Pair w B qb mb dv n ds rest Tq width pushed lv l L) (he : L[j]? = some e) (hc : L.length = c + 1)
    (hQ : QCore w2 B qb mb dv' n ds' rest Tq width (c : Int) (pushed : Int)) (hA : (e :: allEs ds').Perm (allEs ds)) (hF : Filled width ds') (hK : KeptF (Foot qb mb dv ds) w w2) (hft : ∀ k, Foot qb mb dv' ds' k → Foot qb mb dv ds k ∨ w.heap.size ≤ k)
    {s : Nat} (hI : ISl w4 s lv' (l.eraseIdx j)) (hs : s = w2.heap.size ∨ w2.heap.size ≤ s) (hBs : B ≤ s) (k4 : KeptF (fun _ => False) w2 w4) :
    Step w w4 B qb mb dv dv' ds ds' n rest Tq width pushed lv lv' (l.eraseIdx j) (L.eraseIdx j) := by
  have hs' : w2.heap.size ≤ s := by omega
  have hlen : (L.eraseIdx j).length = c := by
    rw [List.length_eraseIdx, if_pos (get_lt he)]; omega
  have hsub := List.eraseIdx_sublist L j
  have hge : ∀ g, lv'.ownBlock = some g → w2.heap.size ≤ g := fun g hg => Nat.le_trans hs' (World.ownsRow_ge hI g hg)
  refine ⟨⟨?_, hF, ?_, h.sorted.sublist hsub, fun a ha => h.rank a (hsub.subset ha), ?_, fun a ha => h.inint a (hsub.subset ha), World.ownsRow_mono hI hBs, fun g hg hf => ?_, h.wid1, h.wid2, h.nle, by rw [hlen]; have := h.lenle; omega⟩, ?_, ?_⟩
  · rw [hlen]
    exact hQ.keep k4 (fun _ _ e => e)
  · have h1 := (perm_eraseIdx L j e he).symm.trans (h.perm.trans hA.symm)
    exact h1.cons_inv
  · rw [map_eraseIdx', h.items]
  · have := (hQ.foot_lt hf).2
    have := hge g hg
    omega
  · exact (hK.weaken (fun _ _ e => .inl e)).trans' k4 (fun _ _ e => e.elim)
  · intro k hk
    rcases hk with hk | hk
    · exact (hft k hk).imp (fun h => .inl h) id
    · exact .inr (Nat.le_trans hK.size (hge k hk))

end

set_option maxRecDepth 100000 in
set_option maxHeartbeats 4000000 in
theorem played_other (w : World) (B qb mb : Nat) (dv : Value) (n : Nat) (ds : List Day) (rest : Array Value) (Tq : TypeId) (width : Int) (pushed : Nat) (lv : Value) (l : List It) (L : List Ent) (W : Int) (x : It) (kind : Int) (hk1' : kind ≠ 1) (hk2' : kind ≠ 2) (hk3' : kind ≠ 3) (hk4' : kind ≠ 4)
    (h : Pair w B qb mb dv n ds rest Tq width pushed lv l L) (_hBw : B ≤ w.heap.size) (hp : pushed ≤ 2932031007317) :
    Calls Try.prog 15 #[.pointer (some ⟨qb, 0, none⟩), lv, .agg #[.int .i64 kind, .int .i64 W, .int .i64 x.t, .int .i64 x.f, .int .i64 x.s, .int .i64 x.l]] w
      (StepPost w B qb mb dv ds rest Tq width lv (fun p' l' => p' = pushed ∧ l' = l)) := by
  obtain ⟨hl1, hl2, hl3⟩ := h.lens
  have hll := h.lenle
  have Hl3 : Hid (l.length = L.length) := hl3
  have hlN : l.length ≤ 2932031007317 := by omega
  have hk0 : KeptF (fun _ => False) w (w.alloc (.cells #[.int .i64 kind, .int .i64 W, .int .i64 x.t, .int .i64 x.f, .int .i64 x.s, .int .i64 x.l] 49)) := (KeptF.refl _ w).alloc _
  have hle := refLeast_any _ B lv l (h.list.keep hk0 (fun _ _ e => e)) (by omega)
  have n1 : (kind == 1) = false := beq_eq_false_iff_ne.2 hk1'
  have n2 : (kind == 2) = false := beq_eq_false_iff_ne.2 hk2'
  have n3 : (kind == 3) = false := beq_eq_false_iff_ne.2 hk3'
  have n4 : (kind == 4) = false := beq_eq_false_iff_ne.2 hk4'
  go_enter Try.func15, Try.ntmps15
  go_wp2_with fail
  refine hle.mono ?_
  rintro e w1 ⟨kk, rfl, hL, hb1⟩
  have hs1 : w.heap.size < w1.heap.size := by have := hb1.size; simp at this; omega
  have hk1 : KeptF (fun _ => False) w w1 := hk0.trans (kept_of_below hb1)
  have hop1 : Blk w1 w.heap.size #[.int .i64 kind, .int .i64 W, .int .i64 x.t, .int .i64 x.f, .int .i64 x.s, .int .i64 x.l] 49 := by
    have hb : Blk (w.alloc (.cells #[.int .i64 kind, .int .i64 W, .int .i64 x.t, .int .i64 x.f, .int .i64 x.s, .int .i64 x.l] 49)) w.heap.size #[.int .i64 kind, .int .i64 W, .int .i64 x.t, .int .i64 x.f, .int .i64 x.s, .int .i64 x.l] 49 := heap_alloc_new w _
    exact hb.keep (kept_of_below hb1) (fun e => e)
  have o0 := hop1.cell 0
  simp only [List.getElem?_toArray, List.getElem?_cons_zero] at o0
  have hI1 := h.list.keep hk1 (fun _ _ e => e)
  clear hle hb1 hk0 hl3
  rcases least_cases hL with ⟨rfl, hnil⟩ | ⟨j, y, rfl, hy, hm1, hm2⟩
  · have HL0 : Hid (L.length = 0) := by have := Hl3.out; rw [hnil] at this; exact this.symm
    have Hnil : Hid (l = []) := hnil
    obtain ⟨ao, cap, hlv⟩ : ∃ ao cap, lv = .slice ao l.length cap := by
      rcases h.list.form with ⟨h1, h2⟩ | ⟨g, cap, h1, _⟩
      · rw [h2]; exact ⟨none, 0, h1⟩
      · exact ⟨_, _, h1⟩
    subst hlv
    clear hL hI1 hnil
    go_wp2
    go_ret2
    exact ⟨dv, ds, n, pushed, _, l, L, rfl, h.idle (hk1.alloc _), rfl, rfl⟩
  · obtain ⟨x0, r0, e0, es0, c, hds, hes, hLj, hit, hLc⟩ := h.front hy hm1 hm2
    obtain ⟨g, cap, hlv, hcapl⟩ : ∃ g cap, lv = .slice (some ⟨g, 0, none⟩) l.length cap ∧ l.length ≤ cap := by
      rcases hI1.form with ⟨_, h2⟩ | h2
      · rw [h2] at hy; simp at hy
      · exact h2
    subst hlv
    obtain ⟨d0, d1, d2, d3⟩ := hI1.cells hy
    have hgl : g < w1.heap.size := block_lt_of_cell d0
    have hj : j < l.length := get_lt hy
    have HLc : Hid (L.length = c + 1) := hLc
    have HLj : Hid (L[j]? = some e0) := hLj
    clear hL hy hm1 hm2 hLc hLj hI1
    subst hit
    go_wp2
    go_ret2
    exact ⟨dv, ds, n, pushed, _, l, L, rfl, h.idle (hk1.alloc _), rfl, rfl⟩

set_option maxRecDepth 100000 in
set_option maxHeartbeats 4000000 in
theorem played_len (w : World) (B qb mb : Nat) (dv : Value) (n : Nat) (ds : List Day) (rest : Array Value) (Tq : TypeId) (width : Int) (pushed : Nat) (lv : Value) (l : List It) (L : List Ent) (W : Int) (x : It)
    (h : Pair w B qb mb dv n ds rest Tq width pushed lv l L) (_hBw : B ≤ w.heap.size) (hp : pushed ≤ 2932031007317) :
    Calls Try.prog 15 #[.pointer (some ⟨qb, 0, none⟩), lv, .agg #[.int .i64 4, .int .i64 W, .int .i64 x.t, .int .i64 x.f, .int .i64 x.s, .int .i64 x.l]] w
      (StepPost w B qb mb dv ds rest Tq width lv (fun p' l' => p' = pushed ∧ l' = l)) := by
  obtain ⟨hl1, hl2, hl3⟩ := h.lens
  have hll := h.lenle
  have Hl3 : Hid (l.length = L.length) := hl3
  have hlN : l.length ≤ 2932031007317 := by omega
  have hk0 : KeptF (fun _ => False) w (w.alloc (.cells #[.int .i64 4, .int .i64 W, .int .i64 x.t, .int .i64 x.f, .int .i64 x.s, .int .i64 x.l] 49)) := (KeptF.refl _ w).alloc _
  have hle := refLeast_any _ B lv l (h.list.keep hk0 (fun _ _ e => e)) (by omega)
  go_enter Try.func15, Try.ntmps15
  go_wp2_with fail
  refine hle.mono ?_
  rintro e w1 ⟨kk, rfl, hL, hb1⟩
  have hs1 : w.heap.size < w1.heap.size := by have := hb1.size; simp at this; omega
  have hk1 : KeptF (fun _ => False) w w1 := hk0.trans (kept_of_below hb1)
  have hop1 : Blk w1 w.heap.size #[.int .i64 4, .int .i64 W, .int .i64 x.t, .int .i64 x.f, .int .i64 x.s, .int .i64 x.l] 49 := by
    have hb : Blk (w.alloc (.cells #[.int .i64 4, .int .i64 W, .int .i64 x.t, .int .i64 x.f, .int .i64 x.s, .int .i64 x.l] 49)) w.heap.size #[.int .i64 4, .int .i64 W, .int .i64 x.t, .int .i64 x.f, .int .i64 x.s, .int .i64 x.l] 49 := heap_alloc_new w _
    exact hb.keep (kept_of_below hb1) (fun e => e)
  have o0 := hop1.cell 0
  simp only [List.getElem?_toArray, List.getElem?_cons_zero] at o0
  have hI1 := h.list.keep hk1 (fun _ _ e => e)
  clear hle hb1 hk0 hl3
  rcases least_cases hL with ⟨rfl, hnil⟩ | ⟨j, y, rfl, hy, hm1, hm2⟩
  · have HL0 : Hid (L.length = 0) := by have := Hl3.out; rw [hnil] at this; exact this.symm
    have Hnil : Hid (l = []) := hnil
    obtain ⟨ao, cap, hlv⟩ : ∃ ao cap, lv = .slice ao l.length cap := by
      rcases h.list.form with ⟨h1, h2⟩ | ⟨g, cap, h1, _⟩
      · rw [h2]; exact ⟨none, 0, h1⟩
      · exact ⟨_, _, h1⟩
    subst hlv
    clear hL hI1 hnil
    go_wp2_with fail
    refine (len_any _ B qb mb dv n ds rest Tq width L.length pushed (h.core.keep (G := fun _ => False) (hk1.alloc _) (fun _ _ e => e))).mono ?_
    rintro e w2 ⟨rfl, rfl⟩
    go_wp2
    go_ret2
    exact ⟨dv, ds, n, pushed, _, l, L, by simp [Hl3.out], h.idle (hk1.alloc _), rfl, rfl⟩
  · obtain ⟨x0, r0, e0, es0, c, hds, hes, hLj, hit, hLc⟩ := h.front hy hm1 hm2
    obtain ⟨g, cap, hlv, hcapl⟩ : ∃ g cap, lv = .slice (some ⟨g, 0, none⟩) l.length cap ∧ l.length ≤ cap := by
      rcases hI1.form with ⟨_, h2⟩ | h2
      · rw [h2] at hy; simp at hy
      · exact h2
    subst hlv
    obtain ⟨d0, d1, d2, d3⟩ := hI1.cells hy
    have hgl : g < w1.heap.size := block_lt_of_cell d0
    have hj : j < l.length := get_lt hy
    have HLc : Hid (L.length = c + 1) := hLc
    have HLj : Hid (L[j]? = some e0) := hLj
    clear hL hy hm1 hm2 hLc hLj hI1
    subst hit
    go_wp2_with fail
    refine (len_any _ B qb mb dv n ds rest Tq width L.length pushed (h.core.keep (G := fun _ => False) (hk1.alloc _) (fun _ _ e => e))).mono ?_
    rintro e w2 ⟨rfl, rfl⟩
    go_wp2
    go_ret2
    exact ⟨dv, ds, n, pushed, _, l, L, by simp [Hl3.out], h.idle (hk1.alloc _), rfl, rfl⟩

set_option maxRecDepth 100000 in
set_option maxHeartbeats 4000000 in
theorem played_least (w : World) (B qb mb : Nat) (dv : Value) (n : Nat) (ds : List Day) (rest : Array Value) (Tq : TypeId) (width : Int) (pushed : Nat) (lv : Value) (l : List It) (L : List Ent) (W : Int) (x : It)
    (h : Pair w B qb mb dv n ds rest Tq width pushed lv l L) (_hBw : B ≤ w.heap.size) (hp : pushed ≤ 2932031007317) :
    Calls Try.prog 15 #[.pointer (some ⟨qb, 0, none⟩), lv, .agg #[.int .i64 3, .int .i64 W, .int .i64 x.t, .int .i64 x.f, .int .i64 x.s, .int .i64 x.l]] w
      (StepPost w B qb mb dv ds rest Tq width lv (fun p' l' => p' = pushed ∧ l' = l)) := by
  obtain ⟨hl1, hl2, hl3⟩ := h.lens
  have hll := h.lenle
  have Hl3 : Hid (l.length = L.length) := hl3
  have hlN : l.length ≤ 2932031007317 := by omega
  have hk0 : KeptF (fun _ => False) w (w.alloc (.cells #[.int .i64 3, .int .i64 W, .int .i64 x.t, .int .i64 x.f, .int .i64 x.s, .int .i64 x.l] 49)) := (KeptF.refl _ w).alloc _
  have hle := refLeast_any _ B lv l (h.list.keep hk0 (fun _ _ e => e)) (by omega)
  go_enter Try.func15, Try.ntmps15
  go_wp2_with fail
  refine hle.mono ?_
  rintro e w1 ⟨kk, rfl, hL, hb1⟩
  have hs1 : w.heap.size < w1.heap.size := by have := hb1.size; simp at this; omega
  have hk1 : KeptF (fun _ => False) w w1 := hk0.trans (kept_of_below hb1)
  have hop1 : Blk w1 w.heap.size #[.int .i64 3, .int .i64 W, .int .i64 x.t, .int .i64 x.f, .int .i64 x.s, .int .i64 x.l] 49 := by
    have hb : Blk (w.alloc (.cells #[.int .i64 3, .int .i64 W, .int .i64 x.t, .int .i64 x.f, .int .i64 x.s, .int .i64 x.l] 49)) w.heap.size #[.int .i64 3, .int .i64 W, .int .i64 x.t, .int .i64 x.f, .int .i64 x.s, .int .i64 x.l] 49 := heap_alloc_new w _
    exact hb.keep (kept_of_below hb1) (fun e => e)
  have o0 := hop1.cell 0
  simp only [List.getElem?_toArray, List.getElem?_cons_zero] at o0
  have hI1 := h.list.keep hk1 (fun _ _ e => e)
  clear hle hb1 hk0 hl3
  rcases least_cases hL with ⟨rfl, hnil⟩ | ⟨j, y, rfl, hy, hm1, hm2⟩
  · have HL0 : Hid (L.length = 0) := by have := Hl3.out; rw [hnil] at this; exact this.symm
    have Hnil : Hid (l = []) := hnil
    obtain ⟨ao, cap, hlv⟩ : ∃ ao cap, lv = .slice ao l.length cap := by
      rcases h.list.form with ⟨h1, h2⟩ | ⟨g, cap, h1, _⟩
      · rw [h2]; exact ⟨none, 0, h1⟩
      · exact ⟨_, _, h1⟩
    subst hlv
    clear hL hI1 hnil
    have hq0 : QCore w1 B qb mb dv n ds rest Tq width ((0 : Nat) : Int) pushed := by
      have := h.core.keep hk1 (fun _ _ e => e)
      rw [HL0.out] at this
      exact this
    go_wp2_with fail
    refine (least_none _ B qb mb dv n ds rest Tq width pushed (hq0.keep (G := fun _ => False) ((KeptF.refl _ w1).alloc _) (fun _ _ e => e))).mono ?_
    rintro e w2 ⟨rfl, hb2⟩
    have hk2 : KeptF (fun _ => False) w w2 := (hk1.alloc _).trans (kept_of_below hb2)
    have hwant := (Blk.keep (heap_alloc_new w1 _) (kept_of_below hb2) (fun e => e) : Blk w2 w1.heap.size #[.int .i64 0, .int .i64 0, .int .i64 0, .int .i64 0] 47)
    have a0 := hwant.cell 0
    have a1 := hwant.cell 1
    have a2 := hwant.cell 2
    have a3 := hwant.cell 3
    simp only [List.getElem?_toArray, List.getElem?_cons_zero, List.getElem?_cons_succ] at a0 a1 a2 a3
    have hs2 : w1.heap.size < w2.heap.size := by have := hb2.size; simp at this; omega
    clear hb2 o0
    go_wp2_with fail
    refine (same_any ⟨0, 0, 0, 0⟩ _).mono ?_
    rintro e w3 ⟨rfl, hb3⟩
    have hk3 : KeptF (fun _ => False) w w3 := (hk2.alloc _).trans (kept_of_below hb3)
    go_wp2
    go_ret2
    exact ⟨dv, ds, n, pushed, _, l, L, rfl, h.idle hk3, rfl, rfl⟩
  · obtain ⟨x0, r0, e0, es0, c, hds, hes, hLj, hit, hLc⟩ := h.front hy hm1 hm2
    obtain ⟨g, cap, hlv, hcapl⟩ : ∃ g cap, lv = .slice (some ⟨g, 0, none⟩) l.length cap ∧ l.length ≤ cap := by
      rcases hI1.form with ⟨_, h2⟩ | h2
      · rw [h2] at hy; simp at hy
      · exact h2
    subst hlv
    obtain ⟨d0, d1, d2, d3⟩ := hI1.cells hy
    have hgl : g < w1.heap.size := block_lt_of_cell d0
    have hj : j < l.length := get_lt hy
    have HLc : Hid (L.length = c + 1) := hLc
    have HLj : Hid (L[j]? = some e0) := hLj
    clear hL hy hm1 hm2 hLc hLj hI1
    subst hit
    subst hds
    have hq0 : QCore w1 B qb mb dv n (x0 :: r0) rest Tq width ((c + 1 : Nat) : Int) pushed := by
      have := h.core.keep hk1 (fun _ _ e => e)
      rw [HLc.out] at this
      exact this
    go_wp2_with fail
    refine (least_some _ B qb mb dv n r0 x0 rest Tq width (c + 1) pushed e0 es0 (hq0.keep (G := fun _ => False) ((KeptF.refl _ w1).alloc _) (fun _ _ e => e)) (by omega) hes).mono ?_
    rintro e w2 ⟨rfl, hb2⟩
    have hk2 : KeptF (fun _ => False) w w2 := (hk1.alloc _).trans (kept_of_below hb2)
    have hwant := (Blk.keep (heap_alloc_new w1 _) (kept_of_below hb2) (fun e => e) : Blk w2 w1.heap.size #[.int .i64 e0.it.t, .int .i64 e0.it.f, .int .i64 e0.it.s, .int .i64 e0.it.l] 47)
    have a0 := hwant.cell 0
    have a1 := hwant.cell 1
    have a2 := hwant.cell 2
    have a3 := hwant.cell 3
    simp only [List.getElem?_toArray, List.getElem?_cons_zero, List.getElem?_cons_succ] at a0 a1 a2 a3
    have hs2 : w1.heap.size < w2.heap.size := by have := hb2.size; simp at this; omega
    have hj0 : decide ((0 : Int) ≤ (j : Int)) = true := decide_eq_true (by omega)
    clear hb2 o0 d0 d1 d2 d3
    go_wp2_with fail
    refine (same_any e0.it _).mono ?_
    rintro e w3 ⟨rfl, hb3⟩
    have hk3 : KeptF (fun _ => False) w w3 := (hk2.alloc _).trans (kept_of_below hb3)
    go_wp2
    go_ret2
    exact ⟨dv, _, n, pushed, _, l, L, rfl, h.idle hk3, rfl, rfl⟩

end Go.Proofs.Ytkobkilfbbalaaa

namespace Go.Proofs.Ytkobkilfbbalaaa
open Go.RowKit Go.Sort Go.Maps

set_option maxRecDepth 100000 in
set_option maxHeartbeats 4000000 in
theorem played_pop (w : World) (B qb mb : Nat) (dv : Value) (n : Nat) (ds : List Day) (rest : Array Value) (Tq : TypeId) (width : Int) (pushed : Nat) (lv : Value) (l : List It) (L : List Ent) (W : Int) (x : It)
    (h : Pair w B qb mb dv n ds rest Tq width pushed lv l L) (hBw : B ≤ w.heap.size) (hp : pushed ≤ 2932031007317) :
    Calls Try.prog 15 #[.pointer (some ⟨qb, 0, none⟩), lv, .agg #[.int .i64 2, .int .i64 W, .int .i64 x.t, .int .i64 x.f, .int .i64 x.s, .int .i64 x.l]] w
      (StepPost w B qb mb dv ds rest Tq width lv (fun p' l' => p' = pushed ∧ l'.length = l.length - 1)) := by
  obtain ⟨hl1, hl2, hl3⟩ := h.lens
  have hll := h.lenle
  have Hl3 : Hid (l.length = L.length) := hl3
  have hlN : l.length ≤ 2932031007317 := by omega
  have hk0 : KeptF (fun _ => False) w (w.alloc (.cells #[.int .i64 2, .int .i64 W, .int .i64 x.t, .int .i64 x.f, .int .i64 x.s, .int .i64 x.l] 49)) := (KeptF.refl _ w).alloc _
  have hle := refLeast_any _ B lv l (h.list.keep hk0 (fun _ _ e => e)) (by omega)
  go_enter Try.func15, Try.ntmps15
  go_wp2_with fail
  refine hle.mono ?_
  rintro e w1 ⟨kk, rfl, hL, hb1⟩
  have hs1 : w.heap.size < w1.heap.size := by have := hb1.size; simp at this; omega
  have hk1 : KeptF (fun _ => False) w w1 := hk0.trans (kept_of_below hb1)
  have hop1 : Blk w1 w.heap.size #[.int .i64 2, .int .i64 W, .int .i64 x.t, .int .i64 x.f, .int .i64 x.s, .int .i64 x.l] 49 := by
    have hb : Blk (w.alloc (.cells #[.int .i64 2, .int .i64 W, .int .i64 x.t, .int .i64 x.f, .int .i64 x.s, .int .i64 x.l] 49)) w.heap.size #[.int .i64 2, .int .i64 W, .int .i64 x.t, .int .i64 x.f, .int .i64 x.s, .int .i64 x.l] 49 := heap_alloc_new w _
    exact hb.keep (kept_of_below hb1) (fun e => e)
  have o0 := hop1.cell 0
  simp only [List.getElem?_toArray, List.getElem?_cons_zero] at o0
  have hI1 := h.list.keep hk1 (fun _ _ e => e)
  clear hle hb1 hk0 hl3
  rcases least_cases hL with ⟨rfl, hnil⟩ | ⟨j, y, rfl, hy, hm1, hm2⟩
  · have HL0 : Hid (L.length = 0) := by have := Hl3.out; rw [hnil] at this; exact this.symm
    have Hnil : Hid (l = []) := hnil
    obtain ⟨ao, cap, hlv⟩ : ∃ ao cap, lv = .slice ao l.length cap := by
      rcases h.list.form with ⟨h1, h2⟩ | ⟨g, cap, h1, _⟩
      · rw [h2]; exact ⟨none, 0, h1⟩
      · exact ⟨_, _, h1⟩
    subst hlv
    clear hL hI1 hnil
    have hq0 : QCore w1 B qb mb dv n ds rest Tq width ((0 : Nat) : Int) pushed := by
      have := h.core.keep hk1 (fun _ _ e => e)
      rw [HL0.out] at this
      exact this
    go_wp2_with fail
    refine (pop_none _ B qb mb dv n ds rest Tq width pushed (hq0.keep (G := fun _ => False) ((KeptF.refl _ w1).alloc _) (fun _ _ e => e))).mono ?_
    rintro e w2 ⟨rfl, hb2⟩
    have hk2 : KeptF (fun _ => False) w w2 := (hk1.alloc _).trans (kept_of_below hb2)
    have hwant := (Blk.keep (heap_alloc_new w1 _) (kept_of_below hb2) (fun e => e) : Blk w2 w1.heap.size #[.int .i64 0, .int .i64 0, .int .i64 0, .int .i64 0] 47)
    have a0 := hwant.cell 0
    have a1 := hwant.cell 1
    have a2 := hwant.cell 2
    have a3 := hwant.cell 3
    simp only [List.getElem?_toArray, List.getElem?_cons_zero, List.getElem?_cons_succ] at a0 a1 a2 a3
    have hs2 : w1.heap.size < w2.heap.size := by have := hb2.size; simp at this; omega
    clear hb2 o0
    go_wp2_with fail
    refine (same_any ⟨0, 0, 0, 0⟩ _).mono ?_
    rintro e w3 ⟨rfl, hb3⟩
    have hk3 : KeptF (fun _ => False) w w3 := (hk2.alloc _).trans (kept_of_below hb3)
    go_wp2
    go_ret2
    exact ⟨dv, ds, n, pushed, _, l, L, rfl, h.idle hk3, rfl, by rw [Hnil.out]; rfl⟩
  · obtain ⟨x0, r0, e0, es0, c, hds, hes, hLj, hit, hLc⟩ := h.front hy hm1 hm2
    obtain ⟨g, cap, hlv, hcapl⟩ : ∃ g cap, lv = .slice (some ⟨g, 0, none⟩) l.length cap ∧ l.length ≤ cap := by
      rcases hI1.form with ⟨_, h2⟩ | h2
      · rw [h2] at hy; simp at hy
      · exact h2
    subst hlv
    obtain ⟨d0, d1, d2, d3⟩ := hI1.cells hy
    have hgl : g < w1.heap.size := block_lt_of_cell d0
    have hj : j < l.length := get_lt hy
    have HLc : Hid (L.length = c + 1) := hLc
    have HLj : Hid (L[j]? = some e0) := hLj
    clear hL hy hm1 hm2 hLc hLj hI1
    subst hit
    subst hds
    have hq0 : QCore w1 B qb mb dv n (x0 :: r0) rest Tq width ((c + 1 : Nat) : Int) pushed := by
      have := h.core.keep hk1 (fun _ _ e => e)
      rw [HLc.out] at this
      exact this
    have hx0 := hl2 x0 (by simp)
    have hr0 : r0.length + 1 ≤ L.length := by simpa using hl1
    have hin : ∀ e ∈ x0.es, InInt e.it.t := fun e he => h.inint e (h.perm.mem_iff.2 (by simp only [allEs, List.flatMap_cons, List.mem_append]; exact .inl he))
    have hwid := h.wid1
    go_wp2_with fail
    refine (pop_some _ B qb mb dv n r0 x0 rest Tq width c pushed e0 es0 (hq0.keep (G := fun _ => False) ((KeptF.refl _ w1).alloc _) (fun _ _ e => e)) h.filled hes hwid hin (by have := HLc.out; omega) (by omega) (by omega)).mono ?_
    rintro e w2 ⟨rfl, dv', ds', hQ2, hA2, hF2, hK2, hft2, hlen2⟩
    have hKw : KeptF (Foot qb mb dv (x0 :: r0)) w w2 := ((hk1.alloc _).weaken (fun _ _ e => e.elim)).trans hK2
    have hnw : ¬ Foot qb mb dv (x0 :: r0) w1.heap.size := fun hk => by have := (h.core.foot_lt hk).2; omega
    have hwant := (Blk.keep (heap_alloc_new w1 _) hK2 hnw : Blk w2 w1.heap.size #[.int .i64 e0.it.t, .int .i64 e0.it.f, .int .i64 e0.it.s, .int .i64 e0.it.l] 47)
    have a0 := hwant.cell 0
    have a1 := hwant.cell 1
    have a2 := hwant.cell 2
    have a3 := hwant.cell 3
    simp only [List.getElem?_toArray, List.getElem?_cons_zero, List.getElem?_cons_succ] at a0 a1 a2 a3
    have hs2 : w1.heap.size < w2.heap.size := hwant.lt
    have hI2 := h.list.keep hKw h.apartL
    have hj0 : decide ((0 : Int) ≤ (j : Int)) = true := decide_eq_true (by omega)
    have hBs : B ≤ w2.heap.size := Nat.le_trans hBw hKw.size
    clear o0 d0 d1 d2 d3
    go_wp2_with fail
    refine (same_any e0.it _).mono ?_
    rintro e w3 ⟨rfl, hb3⟩
    have hk3 : KeptF (fun _ => False) w2 w3 := ((KeptF.refl _ w2).alloc _).trans (kept_of_below hb3)
    have hI3 := hI2.keep hk3 (fun _ _ e => e)
    go_wp2_with fail
    refine (without_any _ B g cap l j hI3 hcapl hlN hj).mono ?_
    rintro e w4 ⟨lv', rfl, hI4, hb4⟩
    have hk4 : KeptF (fun _ => False) w2 w4 := hk3.trans (kept_of_below hb4)
    go_wp2
    go_ret2
    refine ⟨dv', ds', n, pushed, lv', l.eraseIdx j, L.eraseIdx j, rfl, h.popped HLj.out HLc.out hQ2 hA2 hF2 hKw (fun k hk => (hft2 k hk).imp id (fun h' => ?_)) hI4 (.inr hk3.size) (Nat.le_trans hBs hk3.size) hk4, rfl, ?_⟩
    · have := (hk1.alloc (.cells #[.int .i64 e0.it.t, .int .i64 e0.it.f, .int .i64 e0.it.s, .int .i64 e0.it.l] 47)).size
      omega
    · rw [List.length_eraseIdx, if_pos hj]

end Go.Proofs.Ytkobkilfbbalaaa

namespace Go.Proofs.Ytkobkilfbbalaaa
open Go.RowKit Go.Sort Go.Maps

structure QS where
  qb : Nat
  mb : Nat
  dv : Value
  n : Nat
  ds : List Day
  width : Int
  pushed : Nat
  lv : Value
  l : List It
  L : List Ent

def QS.ok (s : QS) (w : World) (B : Nat) : Prop := Pair w B s.qb s.mb s.dv s.n s.ds #[] 100 s.width s.pushed s.lv s.l s.L
def QS.foot (s : QS) (k : Nat) : Prop := PFoot s.qb s.mb s.dv s.ds s.lv k

/-- one step of one queue -/
structure Stepped (w w' : World) (B : Nat) (s s' : QS) : Prop where
  ok : s'.ok w' B
  same : s'.qb = s.qb
  kept : KeptF s.foot w w'
  foot : ∀ k, s'.foot k → s.foot k ∨ w.heap.size ≤ k

theorem stepped_of {w w' : World} {B : Nat} {s : QS} {P : Nat → List It → Prop} {e : Ending} (h : StepPost w B s.qb s.mb s.dv s.ds #[] 100 s.width s.lv P e w') :
    ∃ s', e = .returned (.tuple #[s'.lv, .bool true]) ∧ Stepped w w' B s s' ∧ P s'.pushed s'.l := by
  obtain ⟨dv', ds', n', pushed', lv', l', L', he, hS, hP⟩ := h
  exact ⟨⟨s.qb, s.mb, dv', n', ds', s.width, pushed', lv', l', L'⟩, he, ⟨hS.pair, rfl, hS.kept, hS.foot⟩, hP⟩

/-- a step of a script: what it is, which queue, the item -/
structure OpX where
  kind : Int
  w : Int
  x : It

theorem played_any (w : World) (B : Nat) (s : QS) (o : OpX) (h : s.ok w B) (hBw : B ≤ w.heap.size) (hp : s.pushed < 2932031007317) (ht : InInt o.x.t) :
    Calls Try.prog 15 #[.pointer (some ⟨s.qb, 0, none⟩), s.lv, .agg #[.int .i64 o.kind, .int .i64 o.w, .int .i64 o.x.t, .int .i64 o.x.f, .int .i64 o.x.s, .int .i64 o.x.l]] w
      fun e w' => ∃ s', e = .returned (.tuple #[s'.lv, .bool true]) ∧ Stepped w w' B s s' ∧ s'.pushed ≤ s.pushed + 1 := by
  by_cases h1 : o.kind = 1
  · rw [h1]
    refine (played_push w B s.qb s.mb s.dv s.n s.ds #[] _ s.width s.pushed s.lv s.l s.L o.w o.x h hBw hp ht).mono (fun e w' hS => ?_)
    obtain ⟨s', he, hS', hP⟩ := stepped_of hS
    exact ⟨s', he, hS', by omega⟩
  · by_cases h2 : o.kind = 2
    · rw [h2]
      refine (played_pop w B s.qb s.mb s.dv s.n s.ds #[] _ s.width s.pushed s.lv s.l s.L o.w o.x h hBw (by omega)).mono (fun e w' hS => ?_)
      obtain ⟨s', he, hS', hP⟩ := stepped_of hS
      exact ⟨s', he, hS', by omega⟩
    · by_cases h3 : o.kind = 3
      · rw [h3]
        refine (played_least w B s.qb s.mb s.dv s.n s.ds #[] _ s.width s.pushed s.lv s.l s.L o.w o.x h hBw (by omega)).mono (fun e w' hS => ?_)
        obtain ⟨s', he, hS', hP⟩ := stepped_of hS
        exact ⟨s', he, hS', by omega⟩
      · by_cases h4 : o.kind = 4
        · rw [h4]
          refine (played_len w B s.qb s.mb s.dv s.n s.ds #[] _ s.width s.pushed s.lv s.l s.L o.w o.x h hBw (by omega)).mono (fun e w' hS => ?_)
          obtain ⟨s', he, hS', hP⟩ := stepped_of hS
          exact ⟨s', he, hS', by omega⟩
        · refine (played_other w B s.qb s.mb s.dv s.n s.ds #[] _ s.width s.pushed s.lv s.l s.L o.w o.x o.kind h1 h2 h3 h4 h hBw (by omega)).mono (fun e w' hS => ?_)
          obtain ⟨s', he, hS', hP⟩ := stepped_of hS
          exact ⟨s', he, hS', by omega⟩

theorem popped_any (w : World) (B : Nat) (s : QS) (h : s.ok w B) (hBw : B ≤ w.heap.size) (hp : s.pushed ≤ 2932031007317) :
    Calls Try.prog 15 #[.pointer (some ⟨s.qb, 0, none⟩), s.lv, .agg #[.int .i64 2, .int .i64 0, .int .i64 0, .int .i64 0, .int .i64 0, .int .i64 0]] w
      fun e w' => ∃ s', e = .returned (.tuple #[s'.lv, .bool true]) ∧ Stepped w w' B s s' ∧ s'.pushed = s.pushed ∧ s'.l.length = s.l.length - 1 := by
  refine (played_pop w B s.qb s.mb s.dv s.n s.ds #[] _ s.width s.pushed s.lv s.l s.L 0 ⟨0, 0, 0, 0⟩ h hBw hp).mono (fun e w' hS => ?_)
  obtain ⟨s', he, hS', hP⟩ := stepped_of hS
  exact ⟨s', he, hS', hP.1, hP.2⟩

/-- two queues, their lists, and the two rows that lead to them -/
structure Two (w0 w : World) (qsb lsb : Nat) (s t : QS) : Prop where
  a : s.ok w w0.heap.size
  b : t.ok w w0.heap.size
  disj : ∀ k, s.foot k → ¬ t.foot k
  qs : Blk w qsb #[.pointer (some ⟨s.qb, 0, none⟩), .pointer (some ⟨t.qb, 0, none⟩)] 42
  ls : Blk w lsb #[s.lv, t.lv] 50
  aq : ¬ s.foot qsb
  al : ¬ s.foot lsb
  bq : ¬ t.foot qsb
  bl : ¬ t.foot lsb
  ne : qsb ≠ lsb
  low : w0.heap.size ≤ qsb ∧ w0.heap.size ≤ lsb
  below : Below w0.heap.size w0 w


theorem Pair.drew {w : World} {B qb mb : Nat} {dv : Value} {n : Nat} {ds : List Day} {rest : Array Value} {Tq : TypeId} {width : Int} {pushed : Nat} {lv : Value} {l : List It} {L : List Ent} (h : Pair w B qb mb dv n ds rest Tq width pushed lv l L) : Pair w.drew B qb mb dv n ds rest Tq width pushed lv l L :=
  h.keep (G := fun _ => False) (KeptF.refl _ w).drew (fun _ _ e => e)

theorem QS.foot_lt {w : World} {B : Nat} {s : QS} (h : s.ok w B) {k : Nat} (hk : s.foot k) : B ≤ k ∧ k < w.heap.size := Pair.foot_lt h hk

theorem Two.drew {w0 w : World} {qsb lsb : Nat} {s t : QS} (h : Two w0 w qsb lsb s t) : Two w0 w.drew qsb lsb s t :=
  ⟨Pair.drew h.a, Pair.drew h.b, h.disj, h.qs, h.ls, h.aq, h.al, h.bq, h.bl, h.ne, h.low, h.below.drew⟩

theorem Two.step0 {w0 w w1 : World} {qsb lsb : Nat} {s t s' : QS} (h : Two w0 w qsb lsb s t) (hS : Stepped w w1 w0.heap.size s s') : Two w0 (w1.setCell ⟨lsb, 0, none⟩ s'.lv) qsb lsb s' t := by
  have hlt : ∀ k, k < w.heap.size → ¬ s.foot k → ¬ s'.foot k := by
    intro k hk hn hf
    rcases hS.foot k hf with h1 | h1
    · exact hn h1
    · omega
  have hb1 : t.ok w1 w0.heap.size := Pair.keep h.b hS.kept (fun i hi e => h.disj i e hi)
  have hq1 := h.qs.keep hS.kept h.aq
  have hl1 := h.ls.keep hS.kept h.al
  have nq := hlt qsb h.qs.lt h.aq
  have nl := hlt lsb h.ls.lt h.al
  have k2 := (KeptF.refl (fun k => k = lsb) w1).setCell (p := ⟨lsb, 0, none⟩) (.inl rfl) s'.lv
  refine ⟨Pair.keep hS.ok k2 (fun i hi e => nl (by rw [← e]; exact hi)), Pair.keep hb1 k2 (fun i hi e => h.bl (by rw [← e]; exact hi)), fun k hk ht => ?_, ?_, ?_, nq, nl, h.bq, h.bl, h.ne, h.low, ?_⟩
  · rcases hS.foot k hk with h1 | h1
    · exact h.disj k h1 ht
    · have := (QS.foot_lt h.b ht).2; omega
  · rw [hS.same]
    exact hq1.keep k2 h.ne
  · exact hl1.set 0 s'.lv
  · have hk1 : Below w0.heap.size w w1 := hS.kept.below h.below.size (fun i hi => (QS.foot_lt h.a hi).1)
    exact (h.below.trans hk1).setCell (p := ⟨lsb, 0, none⟩) h.low.2 _

theorem Two.step1 {w0 w w1 : World} {qsb lsb : Nat} {s t t' : QS} (h : Two w0 w qsb lsb s t) (hS : Stepped w w1 w0.heap.size t t') : Two w0 (w1.setCell ⟨lsb, 1, none⟩ t'.lv) qsb lsb s t' := by
  have hlt : ∀ k, k < w.heap.size → ¬ t.foot k → ¬ t'.foot k := by
    intro k hk hn hf
    rcases hS.foot k hf with h1 | h1
    · exact hn h1
    · omega
  have hb1 : s.ok w1 w0.heap.size := Pair.keep h.a hS.kept (fun i hi e => h.disj i hi e)
  have hq1 := h.qs.keep hS.kept h.bq
  have hl1 := h.ls.keep hS.kept h.bl
  have nq := hlt qsb h.qs.lt h.bq
  have nl := hlt lsb h.ls.lt h.bl
  have k2 := (KeptF.refl (fun k => k = lsb) w1).setCell (p := ⟨lsb, 1, none⟩) (.inl rfl) t'.lv
  refine ⟨Pair.keep hb1 k2 (fun i hi e => h.al (by rw [← e]; exact hi)), Pair.keep hS.ok k2 (fun i hi e => nl (by rw [← e]; exact hi)), fun k hs hk => ?_, ?_, ?_, h.aq, h.al, nq, nl, h.ne, h.low, ?_⟩
  · rcases hS.foot k hk with h1 | h1
    · exact h.disj k hs h1
    · have := (QS.foot_lt h.a hs).2; omega
  · rw [hS.same]
    exact hq1.keep k2 h.ne
  · exact hl1.set 1 t'.lv
  · have hk1 : Below w0.heap.size w w1 := hS.kept.below h.below.size (fun i hi => (QS.foot_lt h.b hi).1)
    exact (h.below.trans hk1).setCell (p := ⟨lsb, 1, none⟩) h.low.2 _

end Go.Proofs.Ytkobkilfbbalaaa

namespace Go.Proofs.Ytkobkilfbbalaaa
open Go.RowKit Go.Sort Go.Maps

/-- the script's cells -/
structure ScriptIs (w : World) (ao : Option Addr) (ops : List OpX) : Prop where
  at_ : ops ≠ [] → ∃ b off, ao = some ⟨b, off, none⟩ ∧ b < w.heap.size ∧ ∀ (j : Nat) (o : OpX), ops[j]? = some o →
    w.cell? ⟨b, off + j * 6, none⟩ = some (.int .i64 o.kind) ∧ w.cell? ⟨b, off + j * 6 + 1, none⟩ = some (.int .i64 o.w) ∧ w.cell? ⟨b, off + j * 6 + 2, none⟩ = some (.int .i64 o.x.t) ∧ w.cell? ⟨b, off + j * 6 + 3, none⟩ = some (.int .i64 o.x.f) ∧ w.cell? ⟨b, off + j * 6 + 4, none⟩ = some (.int .i64 o.x.s) ∧ w.cell? ⟨b, off + j * 6 + 5, none⟩ = some (.int .i64 o.x.l)
  inint : ∀ o ∈ ops, InInt o.x.t

theorem and_one (a : Int) : bits BinOp.and IntKind.i64 a 1 = 0 ∨ bits BinOp.and IntKind.i64 a 1 = 1 := by
  have h : (BitVec.ofInt 64 a &&& BitVec.ofInt 64 1).toNat = (BitVec.ofInt 64 a).toNat % 2 := by
    rw [BitVec.toNat_and]
    exact Nat.and_one_is_mod _
  have h2 : (BitVec.ofInt 64 a).toNat % 2 < 2 := Nat.mod_lt _ (by omega)
  have e : bits BinOp.and IntKind.i64 a 1 = IntKind.i64.wrap (((BitVec.ofInt 64 a &&& BitVec.ofInt 64 1).toNat : Nat) : Int) := rfl
  rw [e, h]
  generalize (BitVec.ofInt 64 a).toNat % 2 = n at *
  have h3 : n = 0 ∨ n = 1 := by omega
  rcases h3 with rfl | rfl
  · left; rfl
  · right; rfl

theorem slice_form {s : QS} {w : World} {B : Nat} (h : s.ok w B) : ∃ a n c, s.lv = .slice a n c := by
  rcases (Pair.list h).form with ⟨h1, _⟩ | ⟨g, c, h1, _⟩
  · exact ⟨_, _, _, h1⟩
  · exact ⟨_, _, _, h1⟩

theorem played_anyS (w : World) (B : Nat) (s : QS) (o : OpX) (h : s.ok w B) (hBw : B ≤ w.heap.size) (hp : s.pushed < 2932031007317) (ht : InInt o.x.t) :
    Calls Try.prog 15 #[.pointer (some ⟨s.qb, 0, none⟩), s.lv, .agg #[.int .i64 o.kind, .int .i64 o.w, .int .i64 o.x.t, .int .i64 o.x.f, .int .i64 o.x.s, .int .i64 o.x.l]] w
      fun e w' => ∃ s' a n c, e = .returned (.tuple #[.slice a n c, .bool true]) ∧ Hid (s'.lv = .slice a n c) ∧ Stepped w w' B s s' ∧ s'.pushed ≤ s.pushed + 1 := by
  refine (played_any w B s o h hBw hp ht).mono (fun e w' hS => ?_)
  obtain ⟨s', he, hS', hP⟩ := hS
  obtain ⟨a, n, c, hv⟩ := slice_form hS'.ok
  exact ⟨s', a, n, c, by rw [he, hv], hv, hS', hP⟩

theorem popped_anyS (w : World) (B : Nat) (s : QS) (h : s.ok w B) (hBw : B ≤ w.heap.size) (hp : s.pushed ≤ 2932031007317) :
    Calls Try.prog 15 #[.pointer (some ⟨s.qb, 0, none⟩), s.lv, .agg #[.int .i64 2, .int .i64 0, .int .i64 0, .int .i64 0, .int .i64 0, .int .i64 0]] w
      fun e w' => ∃ s' a n c, e = .returned (.tuple #[.slice a n c, .bool true]) ∧ Hid (s'.lv = .slice a n c) ∧ Stepped w w' B s s' ∧ Hid (s'.pushed = s.pushed) ∧ Hid (s'.l.length = s.l.length - 1) := by
  refine (popped_any w B s h hBw hp).mono (fun e w' hS => ?_)
  obtain ⟨s', he, hS', hP1, hP2⟩ := hS
  obtain ⟨a, n, c, hv⟩ := slice_form hS'.ok
  exact ⟨s', a, n, c, by rw [he, hv], hv, hS', hP1, hP2⟩

theorem make_ls (w : World) : (Instr.makeSlice 45 (.int .i64 2) (.int .i64 2)).run Try.prog w = .ok (.slice (some ⟨w.heap.size, 0, none⟩) 2 2) (w.alloc (.cells #[.slice none 0 0, .slice none 0 0] 50)) := by kernel_rfl

def newQS (qb mb : Nat) (width : Int) : QS := ⟨qb, mb, .slice none 0 0, 0, [], width, 0, .slice none 0 0, [], []⟩

theorem newQS_ok (w : World) (B qb mb : Nat) (width : Int) (h1 : 1 ≤ width) (h2 : width ≤ 100) (hB : B ≤ mb) (hBq : B ≤ qb) (hne : qb ≠ mb) (hm : w.heap[mb]? = some (.map #[] 0)) (hq : Blk w qb #[.int .i64 width, .int .i64 0, .int .i64 0, .slice none 0 0, .map (some mb)] 100) : (newQS qb mb width).ok w B := by
  refine ⟨?_, fun y hy => by simp [newQS] at hy, List.Perm.refl _, by simp [newQS], fun e he => by simp [newQS] at he, rfl, fun e he => by simp [newQS] at he, ISl.nil _ _, fun g hg => by simp [newQS, Value.ownBlock] at hg, h1, h2, Nat.le_refl _, Nat.le_refl _⟩
  exact QCore.empty w B qb mb width _ #[] hB hBq hne hm (by simpa using hq)

theorem two_start (w : World) (wd1 wd2 : Int) (h1 : 1 ≤ wd1) (h2 : wd1 ≤ 100) (h3 : 1 ≤ wd2) (h4 : wd2 ≤ 100) :
    Two w ((((((w.alloc (.map #[] 0)).alloc (.cells #[.int .i64 wd1, .int .i64 0, .int .i64 0, .slice none 0 0, .map (some w.heap.size)] 100)).alloc (.map #[] 0)).alloc (.cells #[.int .i64 wd2, .int .i64 0, .int .i64 0, .slice none 0 0, .map (some (w.heap.size + 1 + 1))] 100)).alloc
        (.cells #[.pointer (some ⟨w.heap.size + 1, 0, none⟩), .pointer (some ⟨w.heap.size + 1 + 1 + 1, 0, none⟩)] 42)).alloc (.cells #[.slice none 0 0, .slice none 0 0] 50))
      (w.heap.size + 1 + 1 + 1 + 1) (w.heap.size + 1 + 1 + 1 + 1 + 1) (newQS (w.heap.size + 1) w.heap.size wd1) (newQS (w.heap.size + 1 + 1 + 1) (w.heap.size + 1 + 1) wd2) := by
  have foot : ∀ (q m k : Nat) (wd : Int), (newQS q m wd).foot k → k = q ∨ k = m := by
    intro q m k wd h
    rcases h with (h | h | h | ⟨x, hx, _⟩) | h
    · exact .inl h
    · exact .inr h
    · simp [newQS, Value.ownBlock] at h
    · simp [newQS] at hx
    · simp [newQS, Value.ownBlock] at h
  have old : ∀ (W : World) (o : Obj) (k : Nat) (x : Obj), W.heap[k]? = some x → (W.alloc o).heap[k]? = some x := by
    intro W o k x hx
    have : k < W.heap.size := by
      rcases Nat.lt_or_ge k W.heap.size with h | h
      · exact h
      · rw [Array.getElem?_eq_none h] at hx; cases hx
    rw [Below.heap_alloc _ _ _ this]; exact hx
  have new : ∀ (W : World) (o : Obj) (k : Nat), W.heap.size = k → (W.alloc o).heap[k]? = some o := by
    intro W o k hk; subst hk; exact heap_alloc_new W o
  refine ⟨newQS_ok _ _ _ _ _ h1 h2 (Nat.le_refl _) (by omega) (by omega) ?_ ?_, newQS_ok _ _ _ _ _ h3 h4 (by omega) (by omega) (by omega) ?_ ?_, ?_, ?_, ?_, ?_, ?_, ?_, ?_, by omega, ⟨by omega, by omega⟩, ?_⟩
  · exact old _ _ _ _ (old _ _ _ _ (old _ _ _ _ (old _ _ _ _ (old _ _ _ _ (new _ _ _ rfl)))))
  · exact old _ _ _ _ (old _ _ _ _ (old _ _ _ _ (old _ _ _ _ (new _ _ _ (by simp)))))
  · exact old _ _ _ _ (old _ _ _ _ (old _ _ _ _ (new _ _ _ (by simp))))
  · exact old _ _ _ _ (old _ _ _ _ (new _ _ _ (by simp)))
  · intro k hk hk'
    have := foot _ _ _ _ hk
    have := foot _ _ _ _ hk'
    omega
  · exact old _ _ _ _ (new _ _ _ (by simp))
  · exact new _ _ _ (by simp)
  · intro hk; have := foot _ _ _ _ hk; omega
  · intro hk; have := foot _ _ _ _ hk; omega
  · intro hk; have := foot _ _ _ _ hk; omega
  · intro hk; have := foot _ _ _ _ hk; omega
  · exact ((((((Below.refl _ w).alloc (Nat.le_refl _) _).alloc (by simp) _).alloc (by simp; omega) _).alloc (by simp; omega) _).alloc (by simp; omega) _).alloc (by simp; omega) _

set_option maxRecDepth 100000 in
set_option maxHeartbeats 8000000 in
theorem queues_any (w : World) (width other : Int) (ao : Option Addr) (cap : Nat) (ops : List OpX) (hS : ScriptIs w ao ops) (hlen : ops.length ≤ 2932031007317) :
    Calls Try.prog 4 #[.int .i64 width, .int .i64 other, .slice ao ops.length cap] w fun e w' => e = .returned (.bool true) ∧ Below w.heap.size w w' := by
  have hmk := make_ls
  go_enter Try.func4, Try.ntmps4
  go_wp2_with fail
  refine (new_any width _).mono ?_
  rintro e w1 ⟨rfl, wd1, ha1, ha2, rfl⟩
  go_wp2_with fail
  refine (new_any other _).mono ?_
  rintro e w2 ⟨rfl, wd2, hb1, hb2, rfl⟩
  go_wp2
  have hT0 := two_start w wd1 wd2 ha1 ha2 hb1 hb2
  go_loopw [11] (fun si wr => ∃ (i : Nat) (s t : QS), si = .int .i64 i ∧ i ≤ ops.length ∧ Two w wr (w.heap.size + 1 + 1 + 1 + 1) (w.heap.size + 1 + 1 + 1 + 1 + 1) s t ∧ s.pushed ≤ i ∧ t.pushed ≤ i) (fun si _ => ops.length - (intOf si).toNat)
  case atStart => exact ⟨0, _, _, rfl, Nat.zero_le _, hT0, Nat.le_refl _, Nat.le_refl _⟩
  case round =>
    obtain ⟨i, s, t, rfl, hi, hT, hp1, hp2⟩ := hrel
    clear hT0 ha1 ha2 hb1 hb2 hmk
    by_cases hlt : i < ops.length
    · obtain ⟨o, ho⟩ := get_of_lt hlt
      obtain ⟨b, off, rfl, hb, hcs⟩ := hS.at_ (by intro e; rw [e] at hlt; simp at hlt)
      obtain ⟨c0, c1, c2, c3, c4, c5⟩ := hcs i o ho
      have bl : ∀ {p v}, w.cell? ⟨b, p, none⟩ = some v → wr.cell? ⟨b, p, none⟩ = some v := fun h => by rw [hT.below.cell (p := ⟨b, _, none⟩) hb]; exact h
      have k0 := bl c0
      have k1 := bl c1
      have k2 := bl c2
      have k3 := bl c3
      have k4 := bl c4
      have k5 := bl c5
      have hti := hS.inint o (List.mem_of_getElem? ho)
      clear c0 c1 c2 c3 c4 c5 bl hcs hS ho
      have hp1' : s.pushed < 2932031007317 := by omega
      have hp2' : t.pushed < 2932031007317 := by omega
      have q0 := hT.qs.cell 0
      have q1 := hT.qs.cell 1
      have l0 := hT.ls.cell 0
      have l1 := hT.ls.cell 1
      simp only [List.getElem?_toArray, List.getElem?_cons_zero, List.getElem?_cons_succ] at q0 q1 l0 l1
      have hTd := hT.drew
      have hBw := hTd.below.size
      have lf := hTd.ls.frozen
      have ld0 := hTd.ls.cell 0
      have ld1 := hTd.ls.cell 1
      have hplayA := played_anyS wr.drew w.heap.size s o hTd.a hBw hp1' hti
      have hplayB := played_anyS wr.drew w.heap.size t o hTd.b hBw hp2' hti
      have hlsb := hT.ls.lt
      rcases and_one o.w with hw | hw
      · go_wp2
        go_region_with ((go_at_call 15
                         refine hplayA.mono ?_
                         rintro e w1 ⟨s', xa, xn, xc, rfl, Hv, hSt, hpu⟩))
        all_goals
          have hT1 := hTd.step0 hSt
          have hb2 := (hTd.ls.keep hSt.kept hTd.al)
          have z0 := hb2.cell 0
          simp only [List.getElem?_toArray, List.getElem?_cons_zero] at z0
          have zf := hb2.frozen
          rw [Hv.out] at hT1
          clear hplayA hplayB k0 k1 k2 k3 k4 k5 q0 q1 l0 l1 ld0 ld1 lf hb2
          go_wp2
          go_roundw
          case rel => exact ⟨i + 1, s', t, by go_num, hlt, hT1, by omega, by omega⟩
          case measure => simp [intOf]; omega
      · go_wp2
        go_region_with ((go_at_call 15
                         refine hplayB.mono ?_
                         rintro e w1 ⟨t', xa, xn, xc, rfl, Hv, hSt, hpu⟩))
        all_goals
          have hT1 := hTd.step1 hSt
          have hb2 := (hTd.ls.keep hSt.kept hTd.bl)
          have z0 := hb2.cell 1
          simp only [List.getElem?_toArray, List.getElem?_cons_zero, List.getElem?_cons_succ] at z0
          have zf := hb2.frozen
          rw [Hv.out] at hT1
          clear hplayA hplayB k0 k1 k2 k3 k4 k5 q0 q1 l0 l1 ld0 ld1 lf hb2
          go_wp2
          go_roundw
          case rel => exact ⟨i + 1, s, t', by go_num, hlt, hT1, by omega, by omega⟩
          case measure => simp [intOf]; omega
    · clear hS
      go_wp2
      go_loopw [15] (fun si wr => ∃ (k : Nat) (s t : QS), si = .int .i64 k ∧ k ≤ 2 ∧ Two w wr (w.heap.size + 1 + 1 + 1 + 1) (w.heap.size + 1 + 1 + 1 + 1 + 1) s t ∧ s.pushed ≤ ops.length ∧ t.pushed ≤ ops.length) (fun si _ => 2 - (intOf si).toNat)
      case atStart => exact ⟨0, s, t, rfl, by omega, hT, by omega, by omega⟩
      case round =>
        clear hT hp1 hp2
        obtain ⟨k, s, t, rfl, hk, hT, hp1, hp2⟩ := hrel
        have hk3 : k = 0 ∨ k = 1 ∨ k = 2 := by omega
        rcases hk3 with rfl | rfl | rfl
        · skip
          obtain ⟨ta, tc, htv⟩ : ∃ a c, s.lv = .slice a s.l.length c := by
            rcases (Pair.list hT.a).form with ⟨h1, h2⟩ | ⟨g, c, h1, _⟩
            · rw [h2]; exact ⟨_, _, h1⟩
            · exact ⟨_, _, h1⟩
          have l0 := hT.ls.cell 0
          simp only [List.getElem?_toArray, List.getElem?_cons_zero] at l0
          rw [htv] at l0
          clear htv
          obtain ⟨n, hn⟩ : ∃ n, n = s.l.length := ⟨_, rfl⟩
          rw [← hn] at l0
          have hnN : n ≤ 2932031007317 := by
            have h1 := (Pair.lens hT.a).2.2
            have h2 := Pair.lenle hT.a
            omega
          have Hn : Hid (n = s.l.length) := hn
          clear hn
          go_wp2
          clear l0
          go_loopw [17] (fun si wr => ∃ (i : Nat) (u : QS), si = .int .i64 i ∧ i ≤ n + 1 ∧ Two w wr (w.heap.size + 1 + 1 + 1 + 1) (w.heap.size + 1 + 1 + 1 + 1 + 1) u t ∧ u.pushed ≤ ops.length ∧ Hid (u.l.length = n - i)) (fun si _ => n + 1 - (intOf si).toNat)
          case atStart => exact ⟨0, s, rfl, by omega, hT, hp1, by have := Hn.out; show _ = _; omega⟩
          case round =>
            clear hT
            obtain ⟨i, u, rfl, hi, hT, hpu, Hul⟩ := hrel
            have q0 := hT.qs.cell 0
            have l0 := hT.ls.cell 0
            simp only [List.getElem?_toArray, List.getElem?_cons_zero] at q0 l0
            by_cases hin : i ≤ n
            · have hTd := hT.drew
              have hpop := popped_anyS wr.drew w.heap.size u hTd.a hTd.below.size (by omega)
              go_wp2
              go_region_with ((go_at_call 15
                               refine hpop.mono ?_
                               rintro e w1 ⟨u', xa, xn, xc, rfl, Hv, hSt, Hp, Hl⟩))
              all_goals
                have hT1 := hTd.step0 hSt
                have hb2 := (hTd.ls.keep hSt.kept hTd.al)
                have z0 := hb2.cell 0
                simp only [List.getElem?_toArray, List.getElem?_cons_zero] at z0
                have zf := hb2.frozen
                rw [Hv.out] at hT1
                clear hpop q0 l0 hb2
                go_wp2
                go_roundw
                case rel =>
                  have hlen2 : Hid (u'.l.length = n - (i + 1)) := by have h1 := Hl.out; have h2 := Hul.out; show _ = _; omega
                  have hpu2 : u'.pushed ≤ ops.length := by have := Hp.out; omega
                  (repeat apply Exists.intro)
                  exact ⟨⟨i + 1, u', by go_num, by omega, hT1, hpu2, hlen2⟩, rfl⟩
                case measure => simp [intOf]; omega
            · have hL0 : u.L.length = 0 := by
                have h1 := (Pair.lens hT.a).2.2
                have h2 := Hul.out
                omega
              have hlen := len_any wr w.heap.size u.qb u.mb u.dv u.n u.ds #[] 100 u.width u.L.length u.pushed (Pair.core hT.a)
              rw [hL0] at hlen
              clear hL0 l0
              go_wp2_with (go_at_call 16; refine hlen.mono ?_; rintro e w1 ⟨rfl, rfl⟩)
              go_roundw
              case rel => exact ⟨1, u, t, by go_num, by omega, hT, hpu, hp2⟩
              case measure => simp [intOf]

        · skip
          obtain ⟨ta, tc, htv⟩ : ∃ a c, t.lv = .slice a t.l.length c := by
            rcases (Pair.list hT.b).form with ⟨h1, h2⟩ | ⟨g, c, h1, _⟩
            · rw [h2]; exact ⟨_, _, h1⟩
            · exact ⟨_, _, h1⟩
          have l0 := hT.ls.cell 1
          simp only [List.getElem?_toArray, List.getElem?_cons_zero, List.getElem?_cons_succ] at l0
          rw [htv] at l0
          clear htv
          obtain ⟨n, hn⟩ : ∃ n, n = t.l.length := ⟨_, rfl⟩
          rw [← hn] at l0
          have hnN : n ≤ 2932031007317 := by
            have h1 := (Pair.lens hT.b).2.2
            have h2 := Pair.lenle hT.b
            omega
          have Hn : Hid (n = t.l.length) := hn
          clear hn
          go_wp2
          clear l0
          go_loopw [17] (fun si wr => ∃ (i : Nat) (u : QS), si = .int .i64 i ∧ i ≤ n + 1 ∧ Two w wr (w.heap.size + 1 + 1 + 1 + 1) (w.heap.size + 1 + 1 + 1 + 1 + 1) s u ∧ u.pushed ≤ ops.length ∧ Hid (u.l.length = n - i)) (fun si _ => n + 1 - (intOf si).toNat)
          case atStart => exact ⟨0, t, rfl, by omega, hT, hp2, by have := Hn.out; show _ = _; omega⟩
          case round =>
            clear hT
            obtain ⟨i, u, rfl, hi, hT, hpu, Hul⟩ := hrel
            have q0 := hT.qs.cell 1
            have l0 := hT.ls.cell 1
            simp only [List.getElem?_toArray, List.getElem?_cons_zero, List.getElem?_cons_succ] at q0 l0
            by_cases hin : i ≤ n
            · have hTd := hT.drew
              have hpop := popped_anyS wr.drew w.heap.size u hTd.b hTd.below.size (by omega)
              go_wp2
              go_region_with ((go_at_call 15
                               refine hpop.mono ?_
                               rintro e w1 ⟨u', xa, xn, xc, rfl, Hv, hSt, Hp, Hl⟩))
              all_goals
                have hT1 := hTd.step1 hSt
                have hb2 := (hTd.ls.keep hSt.kept hTd.bl)
                have z0 := hb2.cell 1
                simp only [List.getElem?_toArray, List.getElem?_cons_zero, List.getElem?_cons_succ] at z0
                have zf := hb2.frozen
                rw [Hv.out] at hT1
                clear hpop q0 l0 hb2
                go_wp2
                go_roundw
                case rel =>
                  have hlen2 : Hid (u'.l.length = n - (i + 1)) := by have h1 := Hl.out; have h2 := Hul.out; show _ = _; omega
                  have hpu2 : u'.pushed ≤ ops.length := by have := Hp.out; omega
                  (repeat apply Exists.intro)
                  exact ⟨⟨i + 1, u', by go_num, by omega, hT1, hpu2, hlen2⟩, rfl⟩
                case measure => simp [intOf]; omega
            · have hL0 : u.L.length = 0 := by
                have h1 := (Pair.lens hT.b).2.2
                have h2 := Hul.out
                omega
              have hlen := len_any wr w.heap.size u.qb u.mb u.dv u.n u.ds #[] 100 u.width u.L.length u.pushed (Pair.core hT.b)
              rw [hL0] at hlen
              clear hL0 l0
              go_wp2_with (go_at_call 16; refine hlen.mono ?_; rintro e w1 ⟨rfl, rfl⟩)
              go_roundw
              case rel => exact ⟨2, s, u, by go_num, by omega, hT, hp1, hpu⟩
              case measure => simp [intOf]

        · go_wp2
          go_ret
          exact ⟨rfl, hT.below⟩

end Go.Proofs.Ytkobkilfbbalaaa

