/-
  The walk of Queue.Pop.
-/
import Derived.Test.YtaieackeflmhgaaK02
namespace Go.Proofs.Ytaieackeflmhgaa
open Go.RowKit Go.Sort Go.Maps

/-- the first day, emptied, is taken out of the heap and of the map -/
theorem QCore.dropDay {w w3 w4 : World} {B qb mb : Nat} {dv dv' : Value} {n : Nat} {l : List Day} {x : Day} {rest : Array Value} {Tq : TypeId} {width count pushed : Int} {D : DataW Nat} {d' : List Dy}
    (h : QCore w B qb mb dv n (x :: l) rest Tq width count pushed) (hM : MapIs D (x :: l))
    (hb3 : Blk w3 qb (#[.int .i64 width, .int .i64 count, .int .i64 pushed, dv', .map (some mb)] ++ rest) Tq) (hd3 : DSl w3 B dv' d') (hP : (x.dy :: d').Perm ((x :: l).map Day.dy)) (hH : HeapL Dy.ltB d')
    (k3 : KeptF (fun i => i = qb ∨ dv.ownBlock = some i) w w3) (hown : dv'.ownBlock = dv.ownBlock)
    (hm4 : w4.ownsMap Try.prog 3 dayR mb n (D.del (.int .i64 x.date))) (k4 : KeptF (fun i => i = mb) w3 w4) :
    ∃ ds', QCore w4 B qb mb dv' n ds' rest Tq width count pushed ∧ ds'.Perm l ∧ KeptF (Foot qb mb dv (x :: l)) w w4 ∧ (∀ k, Foot qb mb dv' ds' k → Foot qb mb dv (x :: l) k) := by
  have A := h.apart
  have hP' : d'.Perm (l.map Day.dy) := by
    rw [List.map_cons] at hP
    exact hP.cons_inv
  obtain ⟨ds', e1, p1⟩ := perm_map_inv Day.dy hP' _ rfl
  have hmem : ∀ {y : Day}, y ∈ ds' → y ∈ x :: l := fun hy => List.mem_cons_of_mem _ (p1.mem_iff.1 hy)
  have hnd := h.nodup
  rw [List.map_cons, List.nodup_cons] at hnd
  have hne : ∀ {y : Day}, y ∈ ds' → y.date ≠ x.date := fun hy e => hnd.1 (by rw [← e]; exact List.mem_map_of_mem (p1.mem_iff.1 hy))
  refine ⟨ds', ⟨hb3.keep k4 A.qm, ⟨_, hm4, ⟨fun y hy => ?_, fun t ht => ?_⟩⟩, ?_, by rw [e1]; exact hH, fun y hy => ?_, ?_, h.lowq, h.lowm, fun y hy => h.lowk y (hmem hy), ?_⟩, p1, ?_, ?_⟩
  · have hk := keyLit_ne (hne hy)
    rw [has_del_other hk]
    refine ⟨(hM.at_ y (hmem hy)).1, fun z => ?_⟩
    rw [atKey_del_other hk]
    exact (hM.at_ y (hmem hy)).2 z
  · by_cases hx : x.date = t
    · rw [← hx]; exact has_del_same
    · rw [has_del_other (keyLit_ne (fun e => hx e.symm))]
      refine hM.not t (fun y hy => ?_)
      rcases List.mem_cons.1 hy with hy | hy
      · rw [hy]; exact hx
      · exact ht y (p1.mem_iff.2 hy)
  · rw [e1]
    exact hd3.keep k4 (fun g hg e => A.dm (by rw [← hown, hg, e]))
  · obtain ⟨h1, h2, h3⟩ := h.each y (hmem hy)
    refine ⟨(h1.keep k3 ?_).keep k4 (A.kq y (hmem hy)).2.1, (h2.keep k3 (fun g hg => ?_)).keep k4 (fun g hg e => (A.iq y (hmem hy)).2.1 (by rw [hg, e])), h3⟩
    · rintro (e | e)
      · exact (A.kq y (hmem hy)).1 e
      · exact (A.kq y (hmem hy)).2.2 e
    · rintro (e | e)
      · exact (A.iq y (hmem hy)).1 (by rw [hg, e])
      · exact (A.iq y (hmem hy)).2.2 g hg e
  · have hp : (ds'.map Day.date).Perm (l.map Day.date) := p1.map _
    rw [hp.nodup_iff]
    exact hnd.2
  · refine ⟨A.qm, by rw [hown]; exact A.dq, by rw [hown]; exact A.dm, fun y hy => ?_, fun y hy => ?_, fun y hy z hz => A.ik y (hmem hy) z (hmem hz), fun y hy z hz => A.xy y (hmem hy) z (hmem hz)⟩
    · rw [hown]; exact A.kq y (hmem hy)
    · rw [hown]; exact A.iq y (hmem hy)
  · refine (k3.weaken (fun i _ e => ?_)).trans' k4 (fun i _ e => .inr (.inl e))
    rcases e with e | e
    · exact .inl e
    · exact .inr (.inr (.inl e))
  · intro k hk
    rcases hk with hk | hk | hk | ⟨y, hy, hk⟩
    · exact .inl hk
    · exact .inr (.inl hk)
    · exact .inr (.inr (.inl (by rw [← hown]; exact hk)))
    · exact .inr (.inr (.inr ⟨y, hmem hy, hk⟩))

set_option maxRecDepth 100000 in
set_option maxHeartbeats 1000000 in
theorem pop_none (w : World) (B qb mb : Nat) (dv : Value) (n : Nat) (ds : List Day) (rest : Array Value) (Tq : TypeId) (width : Int) (pushed : Nat)
    (h : QCore w B qb mb dv n ds rest Tq width ((0 : Nat) : Int) pushed) :
    Calls Try.prog 49 #[.pointer (some ⟨qb, 0, none⟩)] w fun e w' => e = .returned (.tuple #[.agg #[.int .i64 0, .int .i64 0, .int .i64 0, .int .i64 0], .bool false]) ∧ Below w.heap.size w w' := by
  have c1 : w.cell? ⟨qb, 1, none⟩ = some (.int .i64 0) := (h.blk.cell 1).trans (five_get _ _ _ _ _ rest).2.1
  have hqb := h.blk.lt
  clear h
  go_enter Try.func49, Try.ntmps49
  go_wp2
  refine bodyPost_ret (v := .tuple #[.agg #[.int .i64 0, .int .i64 0, .int .i64 0, .int .i64 0], .bool false]) (by simp [results, Try.results49, go_sem]) rfl ⟨rfl, ?_⟩
  exact (Below.refl _ _).alloc (Nat.le_refl _) _

/-- count goes down, the result's cells are stored -/
theorem QCore.lastly {w : World} {B qb mb : Nat} {dv : Value} {n : Nat} {ds : List Day} {rest : Array Value} {Tq : TypeId} {width pushed : Int} {c c' : Int}
    (h : QCore w B qb mb dv n ds rest Tq width c pushed) {R : Nat} (hR : ¬ Foot qb mb dv ds R) (u0 u1 u2 u3 : Value) :
    QCore (((((w.setCell ⟨qb, 1, none⟩ (.int .i64 c')).setCell ⟨R, 0, none⟩ u0).setCell ⟨R, 1, none⟩ u1).setCell ⟨R, 2, none⟩ u2).setCell ⟨R, 3, none⟩ u3) B qb mb dv n ds rest Tq width c' pushed ∧
    KeptF (fun k => k = qb ∨ k = R) w (((((w.setCell ⟨qb, 1, none⟩ (.int .i64 c')).setCell ⟨R, 0, none⟩ u0).setCell ⟨R, 1, none⟩ u1).setCell ⟨R, 2, none⟩ u2).setCell ⟨R, 3, none⟩ u3) := by
  have hb := h.blk.set 1 (.int .i64 c')
  rw [(five_set _ _ _ _ _ (.int .i64 c') rest).1] at hb
  have k1 := (KeptF.refl (fun k => k = qb) w).setCell (p := ⟨qb, 1, none⟩) (.inl rfl) (.int .i64 c')
  have h1 := h.setNum hb k1
  have k2 : KeptF (fun k => k = R) (w.setCell ⟨qb, 1, none⟩ (.int .i64 c')) (((((w.setCell ⟨qb, 1, none⟩ (.int .i64 c')).setCell ⟨R, 0, none⟩ u0).setCell ⟨R, 1, none⟩ u1).setCell ⟨R, 2, none⟩ u2).setCell ⟨R, 3, none⟩ u3) :=
    ((((KeptF.refl (fun k => k = R) _).setCell (p := ⟨R, 0, none⟩) (.inl rfl) u0).setCell (p := ⟨R, 1, none⟩) (.inl rfl) u1).setCell (p := ⟨R, 2, none⟩) (.inl rfl) u2).setCell (p := ⟨R, 3, none⟩) (.inl rfl) u3
  exact ⟨h1.keep k2 (fun i hi e => hR (by rw [← e]; exact hi)), (k1.weaken (fun _ _ e => .inl e)).trans' k2 (fun _ _ e => .inr e)⟩

theorem popped_all {x : Day} {l : List Day} {e : Ent} {d1 : List Ent} {kb : Nat} {dt : Int} {iv : Value} (hP : (e :: d1).Perm x.es) : (e :: allEs (⟨kb, dt, iv, d1⟩ :: l)).Perm (allEs (x :: l)) := by
  simp only [allEs, List.flatMap_cons]
  have := hP.append_right (List.flatMap Day.es l)
  simpa using this

set_option maxRecDepth 100000 in
set_option maxHeartbeats 4000000 in
theorem pop_some (w : World) (B qb mb : Nat) (dv : Value) (n : Nat) (l : List Day) (x : Day) (rest : Array Value) (Tq : TypeId) (width : Int) (count pushed : Nat) (e : Ent) (r : List Ent)
    (h : QCore w B qb mb dv n (x :: l) rest Tq width ((count + 1 : Nat) : Int) pushed) (hF : Filled width (x :: l)) (he : x.es = e :: r) (hw1 : 1 ≤ width) (hT : ∀ e ∈ x.es, InInt e.it.t) (hc : count < 2932031007317) (hle : x.es.length ≤ 2932031007317) (hll : l.length + 1 ≤ 2932031007317) :
    Calls Try.prog 49 #[.pointer (some ⟨qb, 0, none⟩)] w fun e' w' => e' = .returned (.tuple #[.agg #[.int .i64 e.it.t, .int .i64 e.it.f, .int .i64 e.it.s, .int .i64 e.it.l], .bool true]) ∧
      ∃ dv' ds', QCore w' B qb mb dv' n ds' rest Tq width count pushed ∧ (e :: allEs ds').Perm (allEs (x :: l)) ∧ Filled width ds' ∧ KeptF (Foot qb mb dv (x :: l)) w w' ∧ (∀ k, Foot qb mb dv' ds' k → Foot qb mb dv (x :: l) k ∨ w.heap.size ≤ k) ∧ ds'.length ≤ l.length + 1 := by
  obtain ⟨g, cap, gi, ci, hdv, hiv, hA, hE, _, hcm, hBg, hBgi⟩ := h.top he
  obtain ⟨z, hz⟩ := get_of_lt (d := x.es) (k := r.length) (by rw [he]; simp)
  have A := h.apart
  have hgk : gi ≠ x.kb := fun e => A.ik x (by simp) x (by simp) (by rw [hiv, ← e]; rfl)
  -- the world with the result's cells
  have k0 : KeptF (fun _ => False) w (w.alloc (.cells #[.int .i64 0, .int .i64 0, .int .i64 0, .int .i64 0] 120)) := (KeptF.refl _ w).alloc _
  have hR0 : Blk (w.alloc (.cells #[.int .i64 0, .int .i64 0, .int .i64 0, .int .i64 0] 120)) w.heap.size #[.int .i64 0, .int .i64 0, .int .i64 0, .int .i64 0] 120 := heap_alloc_new w _
  have h0 := h.keep k0 (fun _ _ e => e)
  have hA0 := hA.keep k0 (fun e => e)
  have hE0 := hE.keep k0 (fun e => e)
  have hs0 : (w.alloc (.cells #[.int .i64 0, .int .i64 0, .int .i64 0, .int .i64 0] 120)).heap.size = w.heap.size + 1 := by simp
  generalize hW0 : w.alloc (.cells #[.int .i64 0, .int .i64 0, .int .i64 0, .int .i64 0] 120) = W0 at *
  have hpop := popE_any x.kb 1 169 gi ci r.length #[.int .i64 x.date, x.iv] x.es e z W0 (h0.each x (by simp)).1 (by rw [← hiv]; rfl) hE0 (by rw [he]; rfl) hgk (by rw [he] at hle; exact hle) (h0.each x (by simp)).2.2 (by rw [he]; rfl) hz
  have c1 : W0.cell? ⟨qb, 1, none⟩ = some (.int .i64 ((count + 1 : Nat) : Int)) := (h0.blk.cell 1).trans (five_get _ _ _ _ _ rest).2.1
  have c3 : W0.cell? ⟨qb, 3, none⟩ = some (.slice (some ⟨g, 0, none⟩) (l.length + 1) cap) := by rw [← hdv]; exact (h0.blk.cell 3).trans (five_get _ _ _ _ _ rest).2.2.2.1
  have d0 : W0.cell? ⟨g, 0, none⟩ = some (.pointer (some ⟨x.kb, 0, none⟩)) := hA0.cells (j := 0) (e := x.dy) rfl
  have hqb := h.blk.lt
  have hc0 : (((count + 1 : Nat) : Int) == 0) = false := beq_eq_false_iff_ne.2 (by omega)
  have Hs0 : Hid (W0.heap.size = w.heap.size + 1) := hs0
  clear hs0
  go_enter Try.func49, Try.ntmps49
  go_wp2_with fail
  refine hpop.mono ?_
  rintro e' w1 ⟨rfl, d1, hb1, hE1, hP1, hH1, k1⟩
  have hl1 : d1.length = r.length := by
    have := hP1.length_eq
    rw [he] at this
    simpa using this
  have k1' : KeptF (fun i => i = x.kb ∨ x.iv.ownBlock = some i) W0 w1 := k1.weaken (fun i _ e => e.imp id (fun e => by rw [hiv, e]; rfl))
  have hb1' : Blk w1 x.kb #[.int .i64 x.date, .slice (some ⟨gi, 0, none⟩) r.length ci] 169 := hb1
  have hE1' : ESl w1 B (.slice (some ⟨gi, 0, none⟩) r.length ci) d1 := by rw [← hl1]; exact ESl.mk hBgi hcm hE1
  have hgo : ∀ k, (Value.slice (some ⟨gi, 0, none⟩) r.length ci).ownBlock = some k → x.iv.ownBlock = some k ∨ W0.heap.size ≤ k := fun k hk => .inl (by rw [hiv]; exact hk)
  have h1 : QCore w1 B qb mb dv n (⟨x.kb, x.date, .slice (some ⟨gi, 0, none⟩) r.length ci, d1⟩ :: l) rest Tq width ((count + 1 : Nat) : Int) pushed :=
    QCore.replace (l1 := []) (x := x) h0 k1' hb1' hE1' hH1 hgo
  have hft1 : ∀ k, Foot qb mb dv (⟨x.kb, x.date, .slice (some ⟨gi, 0, none⟩) r.length ci, d1⟩ :: l) k → Foot qb mb dv (x :: l) k := by
    intro k hk
    rcases Foot.replace (l1 := []) (x := x) (s := W0.heap.size) hgo hk with h' | h'
    · exact h'
    · have := (h1.foot_lt hk).2
      rcases hk with hk | hk | hk | ⟨y, hy, hk⟩
      · exact .inl hk
      · exact .inr (.inl hk)
      · exact .inr (.inr (.inl hk))
      · rcases List.mem_cons.1 hy with hy | hy
        · subst hy
          rcases hk with hk | hk
          · exact .inr (.inr (.inr ⟨x, by simp, .inl hk⟩))
          · exact .inr (.inr (.inr ⟨x, by simp, .inr (by rw [hiv]; exact hk)⟩))
        · exact .inr (.inr (.inr ⟨y, by simp [hy], hk⟩))
  have hnR : ¬ Foot qb mb dv (x :: l) w.heap.size := fun hk => by have := (h.foot_lt hk).2; omega
  have hK1 : KeptF (Foot qb mb dv (x :: l)) w w1 := (k0.weaken (fun _ _ e => e.elim)).trans' k1' (fun i _ e => .inr (.inr (.inr ⟨x, by simp, e⟩)))
  have hR1 := hR0.keep k1' (fun e => hnR (.inr (.inr (.inr ⟨x, by simp, e⟩))))
  have hs1 : w.heap.size < w1.heap.size := by have := k1.size; have := Hs0.out; omega
  have hnX : ∀ k, Foot qb mb dv (⟨x.kb, x.date, .slice (some ⟨gi, 0, none⟩) r.length ci, d1⟩ :: l) k → k < w1.heap.size := fun k hk => (h1.foot_lt hk).2
  have hnR2 : ¬ Foot qb mb dv (⟨x.kb, x.date, .slice (some ⟨gi, 0, none⟩) r.length ci, d1⟩ :: l) w.heap.size := fun hk => hnR (hft1 _ hk)
  have hkb1 : x.kb < w1.heap.size := (h1.each _ (List.mem_cons_self ..)).1.lt
  have hqb1 : qb < w1.heap.size := h1.blk.lt
  have q1 : w1.cell? ⟨x.kb, 1, none⟩ = some (.slice (some ⟨gi, 0, none⟩) r.length ci) := by
    rw [(h1.each _ (List.mem_cons_self ..)).1.cell]; rfl
  have hqR : qb ≠ w.heap.size := by omega
  have hqR' : w.heap.size ≠ qb := by omega
  clear hpop hR0 hA0 hE0 c1 c3 d0 hb1 hE1 k1 k1' hb1' hE1' hgo h0 k0
  by_cases hr : r = []
  · subst hr
    have hd1 : d1 = [] := List.eq_nil_of_length_eq_zero hl1
    have kX : KeptF (fun _ => False) w1 (w1.alloc (.cells #[.int .i64 e.it.t, .int .i64 e.it.f, .int .i64 e.it.s, .int .i64 e.it.l, .int .i64 e.r] 174)) := (KeptF.refl _ w1).alloc _
    have hX : Blk (w1.alloc (.cells #[.int .i64 e.it.t, .int .i64 e.it.f, .int .i64 e.it.s, .int .i64 e.it.l, .int .i64 e.r] 174)) w1.heap.size #[.int .i64 e.it.t, .int .i64 e.it.f, .int .i64 e.it.s, .int .i64 e.it.l, .int .i64 e.r] 174 := heap_alloc_new w1 _
    have h2 := h1.keep kX (fun _ _ e => e)
    have hR2 := hR1.keep kX (fun e => e)
    have hK2 := hK1.trans' kX (fun _ _ e => e.elim)
    have A2 := h2.apart
    obtain ⟨hA2, hcap⟩ : DArr (w1.alloc (.cells #[.int .i64 e.it.t, .int .i64 e.it.f, .int .i64 e.it.s, .int .i64 e.it.l, .int .i64 e.r] 174)) g 170 cap (((⟨x.kb, x.date, .slice (some ⟨gi, 0, none⟩) ([] : List Ent).length ci, d1⟩ : Day) :: l).map Day.dy) ∧ cap ≤ maxLen := by
      rcases h2.days.cases with ⟨hn, _⟩ | ⟨g2, cap2, hd2, _, hc2, hA2⟩
      · rw [hdv] at hn; cases hn
      · rw [hdv] at hd2
        simp only [Value.slice.injEq, Option.some.injEq, Addr.mk.injEq, and_true] at hd2
        obtain ⟨eg, _, ec⟩ := hd2
        rw [eg, ec]
        exact ⟨hA2, hc2⟩
    obtain ⟨zz, hzz⟩ := get_of_lt (d := (((⟨x.kb, x.date, .slice (some ⟨gi, 0, none⟩) ([] : List Ent).length ci, d1⟩ : Day) :: l).map Day.dy)) (k := l.length) (by simp)
    have hgq : g ≠ qb := fun e => A2.dq (by rw [hdv, ← e]; rfl)
    have hpopD := popD_any qb 3 Tq g cap l.length _ _ (⟨x.kb, x.date⟩ : Dy) zz _ h2.blk (by rw [(five_get _ _ _ _ _ rest).2.2.2.1, hdv]) hA2 (by simp) hgq hll h2.heap rfl hzz
      (by
        intro e he
        obtain ⟨y, hy, rfl⟩ := List.mem_map.1 he
        show World.cell? _ ⟨y.kb, 0, none⟩ = some (.int .i64 y.date)
        rw [(h2.each y hy).1.cell]
        rfl)
      (by
        intro e he
        obtain ⟨y, hy, rfl⟩ := List.mem_map.1 he
        refine ⟨(A2.kq y hy).1, fun e => (A2.kq y hy).2.2 ?_⟩
        rw [hdv, ← e]
        rfl)
    go_wp2_with fail
    refine hpopD.mono ?_
    rintro e' w3 ⟨rfl, d3, hb3, hA3, hP3, hH3, k3⟩
    rw [(five_set _ _ _ _ _ (.slice (some ⟨g, 0, none⟩) l.length cap) rest).2.2] at hb3
    have hl3 : d3.length = l.length := by
      have := hP3.length_eq
      simpa using this
    have hd3 : DSl w3 B (.slice (some ⟨g, 0, none⟩) l.length cap) d3 := by rw [← hl3]; exact DSl.mk hBg hcap hA3
    have k3' : KeptF (fun i => i = qb ∨ dv.ownBlock = some i) (w1.alloc (.cells #[.int .i64 e.it.t, .int .i64 e.it.f, .int .i64 e.it.s, .int .i64 e.it.l, .int .i64 e.r] 174)) w3 := k3.weaken (fun i _ e => e.imp id (fun e => by rw [hdv, e]; rfl))
    obtain ⟨D, hown, hM⟩ := h2.map
    have hown3 := ownsMap_keep hown k3' (by
      rintro (e | e)
      · exact A2.qm e.symm
      · exact A2.dm e)
    have hkey : keyOf Try.prog 3 (.int .i64 x.date) = some (.int .i64 x.date) := by
      have he0 := (hF x (by simp)).2 e (by rw [he]; simp)
      exact keyOf_int_mk (P := Try.prog) Try.underlying3 (wf_i64 (by rw [← he0]; exact tdiv_range (hT e (by rw [he]; simp)) hw1))
    obtain ⟨w4, hdel, hown4, hturn⟩ := hown3.drew.drop key_law Try.underlying114 hkey 0
    have hg4 := hturn.grown
    have k4 : KeptF (fun i => i = mb) w3 w4 := (KeptF.refl (fun i => i = mb) w3).drew.trans (KeptF.of_grown (F := fun i => i = mb) hg4 (fun k e _ => by cases e; rfl))
    obtain ⟨ds', hQ, hPd, hKd, hfd⟩ := h2.dropDay hM hb3 hd3 hP3 hH3 k3' (by rw [hdv]; rfl) hown4 k4
    have m3 : w3.cell? ⟨qb, 4, none⟩ = some (.map (some mb)) := (hb3.cell 4).trans (five_get _ _ _ _ _ rest).2.2.2.2
    have hx3 : Blk w3 x.kb #[.int .i64 x.date, .slice (some ⟨gi, 0, none⟩) ([] : List Ent).length ci] 169 := (h2.each _ (List.mem_cons_self ..)).1.keep k3' (by
      rintro (e | e)
      · exact (A2.kq _ (List.mem_cons_self ..)).1 e
      · exact (A2.kq _ (List.mem_cons_self ..)).2.2 e)
    have x3 : w3.cell? ⟨x.kb, 0, none⟩ = some (.int .i64 x.date) := by rw [hx3.cell]; rfl
    have hnR4 : ¬ Foot qb mb dv (⟨x.kb, x.date, .slice (some ⟨gi, 0, none⟩) ([] : List Ent).length ci, d1⟩ :: l) w1.heap.size := fun hk => by have := hnX _ hk; omega
    have hR4 := hR2.keep hKd hnR2
    have hX4 := hX.keep hKd hnR4
    have q2 : w4.cell? ⟨qb, 1, none⟩ = some (.int .i64 ((count : Int) + 1)) := (hQ.blk.cell 1).trans (five_get _ _ _ _ _ rest).2.1
    have qz := hQ.blk.frozen 1
    have Rz := hR4.frozen
    have r0 := hR4.cell 0
    have r1 := hR4.cell 1
    have r2 := hR4.cell 2
    have r3 := hR4.cell 3
    have x0 := hX4.cell 0
    have x1 := hX4.cell 1
    have x2 := hX4.cell 2
    have x4 := hX4.cell 3
    simp only [List.getElem?_toArray, List.getElem?_cons_zero, List.getElem?_cons_succ] at r0 r1 r2 r3 x0 x1 x2 x4
    have hXR : w1.heap.size ≠ w.heap.size := by omega
    have hqX : w1.heap.size ≠ qb := by omega
    have hfin := fun u0 u1 u2 u3 => hQ.lastly (c' := (count : Int)) (R := w.heap.size) (fun hk => hnR2 (hfd _ hk)) u0 u1 u2 u3
    clear hpopD k3 hb3 hA3 hown hown3 hkey hX hX4 hR4 hx3
    go_wp2
    refine still_tail' 8 (by kernel_rfl) (by kernel_rfl) ?_
    simp only [List.take_succ_cons, List.take_zero, List.drop_succ_cons, List.drop_zero]
    repeat still_step
    refine wpStill_nil ?_
    go_wp2
    obtain ⟨hq, hk⟩ := hfin (.int .i64 e.it.t) (.int .i64 e.it.f) (.int .i64 e.it.s) (.int .i64 e.it.l)
    refine bodyPost_ret (v := .tuple #[.agg #[.int .i64 e.it.t, .int .i64 e.it.f, .int .i64 e.it.s, .int .i64 e.it.l], .bool true]) (by simp [results, Try.results49, go_sem, r0, r1, r2, r3]) rfl ⟨rfl, _, ds', hq, ?_, ?_, ?_, fun k hk => .inl (hft1 k (hfd k hk)), by rw [hPd.length_eq]; omega⟩
    · refine List.Perm.trans (List.Perm.cons e ?_) (popped_all (x := x) (l := l) (kb := x.kb) (dt := x.date) (iv := x.iv) hP1)
      rw [hd1]
      simp only [allEs, List.flatMap_cons, List.nil_append]
      exact hPd.flatMap_right Day.es
    · intro y hy
      exact hF y (List.mem_cons_of_mem _ (hPd.mem_iff.1 hy))
    · refine (hK2.trans' hKd (fun i _ e => hft1 i e)).trans' hk (fun i hi e => ?_)
      rcases e with e | e
      · exact .inl e
      · omega
  · have hr0 : ((r.length : Int) == 0) = false := by
      rw [beq_eq_false_iff_ne]
      intro e0
      exact hr (List.eq_nil_of_length_eq_zero (by omega))
    have q2 : w1.cell? ⟨qb, 1, none⟩ = some (.int .i64 ((count : Int) + 1)) := (h1.blk.cell 1).trans (five_get _ _ _ _ _ rest).2.1
    have qz := h1.blk.frozen 1
    have Rz := hR1.frozen
    have r0 := hR1.cell 0
    have r1 := hR1.cell 1
    have r2 := hR1.cell 2
    have r3 := hR1.cell 3
    simp only [List.getElem?_toArray, List.getElem?_cons_zero, List.getElem?_cons_succ] at r0 r1 r2 r3
    have hfin := fun u0 u1 u2 u3 => h1.lastly (c' := (count : Int)) hnR2 u0 u1 u2 u3
    go_wp2
    obtain ⟨hq, hk⟩ := hfin (.int .i64 e.it.t) (.int .i64 e.it.f) (.int .i64 e.it.s) (.int .i64 e.it.l)
    refine bodyPost_ret (v := .tuple #[.agg #[.int .i64 e.it.t, .int .i64 e.it.f, .int .i64 e.it.s, .int .i64 e.it.l], .bool true]) (by simp [results, Try.results49, go_sem, r0, r1, r2, r3, hs1]) rfl ⟨rfl, dv, _, hq.keep ((KeptF.refl (fun _ => False) _).alloc _) (fun _ _ e => e), popped_all hP1, ?_, ?_, fun k hk => .inl (hft1 k hk), by simp⟩
    · intro y hy
      rcases List.mem_cons.1 hy with hy | hy
      · subst hy
        refine ⟨fun h0 => hr (List.eq_nil_of_length_eq_zero ?_), fun e' he' => (hF x (by simp)).2 e' (hP1.mem_iff.1 (List.mem_cons_of_mem _ he'))⟩
        have h0' : d1 = [] := h0
        rw [← hl1, h0']; rfl
      · exact hF y (by simp [hy])
    · refine (hK1.trans' hk (fun i hi e => ?_)).alloc _
      rcases e with e | e
      · exact .inl e
      · omega

end Go.Proofs.Ytaieackeflmhgaa

