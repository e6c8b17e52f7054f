/-
  The walk of Queue.Push.
-/
import Derived.Test.YtbpaigpjffdcbaaDayOf
namespace Go.Proofs.Ytbpaigpjffdcbaa
open Go.RowKit Go.Sort Go.Maps

def allEs (ds : List Day) : List Ent := ds.flatMap Day.es

/-- what dayOf leaves: the day asked for, among the others -/
structure DayGot (w w' : World) (B qb mb : Nat) (dv dv' : Value) (n n' : Nat) (ds l1 l2 : List Day) (x : Day) (rest : Array Value) (Tq : TypeId) (width count pushed t : Int) : Prop where
  core : QCore w' B qb mb dv' n' (l1 ++ x :: l2) rest Tq width count pushed
  date : x.date = t.tdiv width
  nle : n' ≤ n + 1
  kept : KeptF (Foot qb mb dv ds) w w'
  foot : ∀ k, Foot qb mb dv' (l1 ++ x :: l2) k → Foot qb mb dv ds k ∨ w.heap.size ≤ k
  all : (allEs (l1 ++ x :: l2)).Perm (allEs ds)
  others : ∀ y ∈ l1 ++ l2, y ∈ ds
  own : x ∈ ds ∨ x.es = []
  len : (l1 ++ l2).length ≤ ds.length

theorem dayOf_any (w : World) (B qb mb : Nat) (dv : Value) (n : Nat) (ds : List Day) (rest : Array Value) (Tq : TypeId) (width count pushed t : Int)
    (h : QCore w B qb mb dv n ds rest Tq width count pushed) (hBw : B ≤ w.heap.size) (hw1 : 1 ≤ width) (hw2 : width ≤ 100) (ht : InInt t) (hn : n ≤ 2932031007317) (hl : ds.length + 1 ≤ 2932031007317) :
    Calls Try.prog 68 #[.pointer (some ⟨qb, 0, none⟩), .int .i64 t] w fun e w' => ∃ dv' n' l1 l2 x, e = .returned (.pointer (some ⟨x.kb, 0, none⟩)) ∧ DayGot w w' B qb mb dv dv' n n' ds l1 l2 x rest Tq width count pushed t := by
  by_cases hf : ∃ x ∈ ds, x.date = t.tdiv width
  · obtain ⟨x, hx, hd⟩ := hf
    obtain ⟨l1, l2, rfl⟩ := List.append_of_mem hx
    refine (dayOf_found w B qb mb dv n _ rest Tq width count pushed t x h hw1 hw2 ht hx hd).mono ?_
    rintro e w' ⟨rfl, rfl⟩
    refine ⟨dv, n, l1, l2, x, rfl, h, hd, by omega, KeptF.refl _ _, fun k hk => .inl hk, List.Perm.refl _, fun y hy => ?_, .inl hx, by simp⟩
    rcases List.mem_append.1 hy with hy | hy
    · exact List.mem_append_left _ hy
    · exact List.mem_append_right _ (List.mem_cons_of_mem _ hy)
  · have hnew : ∀ y ∈ ds, y.date ≠ t.tdiv width := fun y hy e => hf ⟨y, hy, e⟩
    refine (dayOf_new w B qb mb dv n ds rest Tq width count pushed t h hBw hw1 hw2 ht hnew hn hl).mono ?_
    rintro e w' ⟨rfl, dv', ds', hQ, hP, hK, g, hg1, hg2⟩
    have hx : (⟨w.heap.size, t.tdiv width, .slice none 0 0, []⟩ : Day) ∈ ds' := hP.mem_iff.2 (by simp)
    obtain ⟨l1, l2, rfl⟩ := List.append_of_mem hx
    have hP2 : (l1 ++ l2).Perm ds := by
      have h1 : ((⟨w.heap.size, t.tdiv width, .slice none 0 0, []⟩ : Day) :: (l1 ++ l2)).Perm (l1 ++ ⟨w.heap.size, t.tdiv width, .slice none 0 0, []⟩ :: l2) := List.perm_middle.symm
      have h2 : (ds ++ [(⟨w.heap.size, t.tdiv width, .slice none 0 0, []⟩ : Day)]).Perm (⟨w.heap.size, t.tdiv width, .slice none 0 0, []⟩ :: ds) := List.perm_append_singleton _ _
      exact ((h1.trans hP).trans h2).cons_inv
    refine ⟨dv', n + 1, l1, l2, _, rfl, hQ, rfl, Nat.le_refl _, ?_, ?_, ?_, fun y hy => hP2.mem_iff.1 hy, .inr rfl, by rw [hP2.length_eq]; exact Nat.le_refl _⟩
    · refine hK.weaken (fun i _ hi => ?_)
      rcases hi with hi | hi | hi
      · exact .inl hi
      · exact .inr (.inl hi)
      · exact .inr (.inr (.inl hi))
    · intro k hk
      rcases hk with hk | hk | hk | ⟨y, hy, hk⟩
      · exact .inl (.inl hk)
      · exact .inl (.inr (.inl hk))
      · rw [hg1] at hk
        cases hk
        rcases hg2 with h1 | h1
        · exact .inl (.inr (.inr (.inl h1)))
        · exact .inr h1
      · have := hP.mem_iff.1 hy
        rcases List.mem_append.1 this with hy | hy
        · exact .inl (.inr (.inr (.inr ⟨y, hy, hk⟩)))
        · simp only [List.mem_cons, List.not_mem_nil, or_false] at hy
          subst hy
          rcases hk with hk | hk
          · exact .inr (Nat.le_of_eq hk.symm)
          · simp [Value.ownBlock] at hk
    · have := hP.flatMap_right Day.es
      unfold allEs
      refine this.trans ?_
      simp

def Filled (width : Int) (ds : List Day) : Prop := ∀ y ∈ ds, y.es ≠ [] ∧ ∀ e ∈ y.es, e.it.t.tdiv width = y.date

/-- what stands in the world behind dayOf, for the rest of Push -/
theorem DayGot.facts {w w' : World} {B qb mb : Nat} {dv dv' : Value} {n n' : Nat} {ds l1 l2 : List Day} {x : Day} {rest : Array Value} {Tq : TypeId} {width count pushed t : Int} (G : DayGot w w' B qb mb dv dv' n n' ds l1 l2 x rest Tq width count pushed t)
    {ib T : Nat} {a b c d : Value} (hi : Blk w ib #[a, b, c, d] T) (hn : ¬ Foot qb mb dv ds ib) :
    w'.cell? ⟨qb, 2, none⟩ = some (.int .i64 pushed) ∧ w'.cell? ⟨ib, 0, none⟩ = some a ∧ w'.cell? ⟨ib, 1, none⟩ = some b ∧ w'.cell? ⟨ib, 2, none⟩ = some c ∧ w'.cell? ⟨ib, 3, none⟩ = some d := by
  have hi' := hi.keep G.kept hn
  refine ⟨(G.core.blk.cell 2).trans (five_get _ _ _ _ _ rest).2.2.1, ?_, ?_, ?_, ?_⟩ <;> (rw [hi'.cell]; rfl)

/-- the core behind the push into the day -/
theorem DayGot.pushed {w w' w2 : World} {B qb mb : Nat} {dv dv' : Value} {n n' : Nat} {ds l1 l2 : List Day} {x : Day} {rest : Array Value} {Tq : TypeId} {width count pushed : Int} {e : Ent} (G : DayGot w w' B qb mb dv dv' n n' ds l1 l2 x rest Tq width count pushed e.it.t)
    {iv' : Value} {es' : List Ent} (hF : Filled width ds) (hb2 : Blk w2 x.kb ((#[.int .i64 x.date, x.iv] : Array Value).setIfInBounds 1 iv') 155) (hE2 : ESl w2 B iv' es') (hP2 : es'.Perm (x.es ++ [e])) (hH2 : HeapL Ent.ltB es')
    (hK2 : KeptF (fun k => k = x.kb ∨ x.iv.ownBlock = some k) w' w2) (hg2 : ∃ g, iv'.ownBlock = some g ∧ (x.iv.ownBlock = some g ∨ w'.heap.size ≤ g)) :
    ∃ ds', QCore w2 B qb mb dv' n' ds' rest Tq width count pushed ∧ (allEs ds').Perm (e :: allEs ds) ∧ Filled width ds' ∧ KeptF (Foot qb mb dv ds) w w2 ∧ (∀ k, Foot qb mb dv' ds' k → Foot qb mb dv ds k ∨ w.heap.size ≤ k) ∧ ds'.length ≤ ds.length + 1 := by
  obtain ⟨g, hg1, hg3⟩ := hg2
  have hg' : ∀ k, iv'.ownBlock = some k → x.iv.ownBlock = some k ∨ w'.heap.size ≤ k := fun k hk => by rw [hg1] at hk; cases hk; exact hg3
  have hb3 : Blk w2 x.kb #[.int .i64 x.date, iv'] 155 := hb2
  have hQ := G.core.replace hK2 hb3 hE2 hH2 hg'
  have hxm : x ∈ l1 ++ x :: l2 := by simp
  refine ⟨_, hQ, ?_, ?_, ?_, ?_, ?_⟩
  · have h1 : (allEs (l1 ++ (⟨x.kb, x.date, iv', es'⟩ : Day) :: l2)).Perm (e :: allEs (l1 ++ x :: l2)) := by
      simp only [allEs, List.flatMap_append, List.flatMap_cons]
      have h2 : (es' ++ List.flatMap Day.es l2).Perm (e :: (x.es ++ List.flatMap Day.es l2)) := by
        have := (hP2.trans (List.perm_append_singleton e x.es)).append_right (List.flatMap Day.es l2)
        simpa using this
      exact (h2.append_left _).trans List.perm_middle
    exact h1.trans (G.all.cons e)
  · intro y hy
    rcases List.mem_append.1 hy with hy | hy
    · exact hF y (G.others y (List.mem_append_left _ hy))
    · rcases List.mem_cons.1 hy with hy | hy
      · subst hy
        refine ⟨fun h0 => ?_, fun e' he' => ?_⟩
        · have h0' : es' = [] := h0
          have := hP2.length_eq
          rw [h0'] at this
          simp at this
        · have := hP2.mem_iff.1 he'
          rcases List.mem_append.1 this with h1 | h1
          · rcases G.own with h2 | h2
            · exact (hF x h2).2 e' h1
            · rw [h2] at h1; simp at h1
          · simp only [List.mem_cons, List.not_mem_nil, or_false] at h1
            subst h1
            exact G.date.symm
      · exact hF y (G.others y (List.mem_append_right _ hy))
  · refine G.kept.trans' hK2 (fun i hi hi' => ?_)
    have : Foot qb mb dv' (l1 ++ x :: l2) i := .inr (.inr (.inr ⟨x, hxm, hi'⟩))
    rcases G.foot i this with h1 | h1
    · exact h1
    · omega
  · intro k hk
    rcases Foot.replace hg' hk with h1 | h1
    · exact G.foot k h1
    · exact .inr (Nat.le_trans G.kept.size h1)
  · have := G.len
    simp only [List.length_append, List.length_cons] at this ⊢
    omega

set_option maxRecDepth 100000 in
set_option maxHeartbeats 16000000 in
theorem qpush_any (w : World) (B qb mb : Nat) (dv : Value) (n : Nat) (ds : List Day) (rest : Array Value) (Tq : TypeId) (width : Int) (count pushed : Nat) (i : It)
    (h : QCore w B qb mb dv n ds rest Tq width count pushed) (hF : Filled width ds) (hBw : B ≤ w.heap.size) (hw1 : 1 ≤ width) (hw2 : width ≤ 100) (ht : InInt i.t) (hn : n ≤ 2932031007317) (hl : ds.length + 1 ≤ 2932031007317)
    (hc : count < 2932031007317) (hp : pushed < 2932031007317) (hlen : ∀ x ∈ ds, x.es.length + 1 ≤ 2932031007317) :
    Calls Try.prog 43 #[.pointer (some ⟨qb, 0, none⟩), .agg #[.int .i64 i.t, .int .i64 i.f, .int .i64 i.s, .int .i64 i.l]] w fun e w' => e = .returned (.tuple #[]) ∧
      ∃ dv' n' ds', QCore w' B qb mb dv' n' ds' rest Tq width ((count + 1 : Nat) : Int) ((pushed + 1 : Nat) : Int) ∧ n' ≤ n + 1 ∧ (allEs ds').Perm (⟨i, pushed⟩ :: allEs ds) ∧ Filled width ds' ∧ KeptF (Foot qb mb dv ds) w w' ∧ (∀ k, Foot qb mb dv' ds' k → Foot qb mb dv ds k ∨ w.heap.size ≤ k) ∧ ds'.length ≤ ds.length + 1 := by
  have hW0 := h.keep (w' := (w.alloc (.cells #[.int .i64 i.t, .int .i64 i.f, .int .i64 i.s, .int .i64 i.l] 117)).drew) ((KeptF.refl (fun _ => False) w).alloc _).drew (fun _ _ h => h)
  have hday := dayOf_any _ B qb mb dv n ds rest Tq width count pushed i.t hW0 (by simp; omega) hw1 hw2 ht hn hl
  have hib : Blk (w.alloc (.cells #[.int .i64 i.t, .int .i64 i.f, .int .i64 i.s, .int .i64 i.l] 117)).drew w.heap.size #[.int .i64 i.t, .int .i64 i.f, .int .i64 i.s, .int .i64 i.l] 117 := heap_alloc_new w _
  have hnf : ¬ Foot qb mb dv ds w.heap.size := fun hk => by have := (h.foot_lt hk).2; omega
  have hk0 : KeptF (Foot qb mb dv ds) w (w.alloc (.cells #[.int .i64 i.t, .int .i64 i.f, .int .i64 i.s, .int .i64 i.l] 117)).drew := ((KeptF.refl _ w).alloc _).drew
  have c2 : w.cell? ⟨qb, 2, none⟩ = some (.int .i64 pushed) := (h.blk.cell 2).trans (five_get _ _ _ _ _ rest).2.2.1
  have hqb := h.blk.lt
  clear hW0
  go_enter Try.func43, Try.ntmps43
  go_wp2
  go_region_with ((first
    | (go_at_call 68
       refine hday.mono ?_
       rintro e w1 ⟨dv', n', l1, l2, x, rfl, hG⟩
       obtain ⟨c2', i0, i1, i2, i3⟩ := hG.facts hib hnf)
    | (go_at_call 69
       refine (pushE_any x.kb 1 B 155 #[.int .i64 x.date, x.iv] x.iv x.es ⟨i, pushed⟩ w1 (hG.core.each x (by simp)).1 rfl (hG.core.each x (by simp)).2.1 ?_ (hG.core.apart.ik x (by simp) x (by simp)) ?_ (hG.core.each x (by simp)).2.2).mono ?_
       · exact Nat.le_trans hBw (Nat.le_trans hk0.size hG.kept.size)
       · rcases hG.own with h2 | h2
         · exact hlen x h2
         · rw [h2]; simp
       rintro e w2 ⟨rfl, iv', es', hb2, hE2, hP2, hH2, hK2, hg2⟩)))
  all_goals
    obtain ⟨ds', hQ, hA, hF', hK, hft, hlen'⟩ := DayGot.pushed (e := ⟨i, pushed⟩) hG hF hb2 hE2 hP2 hH2 hK2 hg2
    have q1 : w2.cell? ⟨qb, 1, none⟩ = some (.int .i64 count) := (hQ.blk.cell 1).trans (five_get _ _ _ _ _ rest).2.1
    have q2 : w2.cell? ⟨qb, 2, none⟩ = some (.int .i64 pushed) := (hQ.blk.cell 2).trans (five_get _ _ _ _ _ rest).2.2.1
    have qz := hQ.blk.frozen
    have Hn : Hid (n' ≤ n + 1) := hG.nle
    clear c2 c2' i0 i1 i2 i3 hday hb2 hE2 hP2 hH2 hK2 hg2 hG
    go_wp2
    go_end0
    have hb3 := (hQ.blk.set 2 (.int .i64 ((pushed : Int) + 1))).set 1 (.int .i64 ((count : Int) + 1))
    rw [(five_set _ _ _ _ _ (.int .i64 ((pushed : Int) + 1)) rest).2.1, (five_set _ _ _ _ _ (.int .i64 ((count : Int) + 1)) rest).1] at hb3
    have k3 : KeptF (fun k => k = qb) w2 ((w2.setCell ⟨qb, 2, none⟩ (.int .i64 ((pushed : Int) + 1))).setCell ⟨qb, 1, none⟩ (.int .i64 ((count : Int) + 1))) := ((KeptF.refl (fun k => k = qb) w2).setCell (p := ⟨qb, 2, none⟩) (.inl rfl) _).setCell (p := ⟨qb, 1, none⟩) (.inl rfl) _
    refine ⟨rfl, dv', n', ds', hQ.setNum hb3 k3, Hn.out, hA, hF', ?_, fun k hk => ?_, hlen'⟩
    · exact (hk0.trans hK).trans' k3 (fun k _ e => .inl e)
    · rcases hft k hk with h1 | h1
      · exact .inl h1
      · exact .inr (Nat.le_trans hk0.size h1)

end Go.Proofs.Ytbpaigpjffdcbaa
