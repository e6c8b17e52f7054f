/-
  The walk of Queue.Pop.
  The reference's lists of items: Ahead, Least, Without; item and same of the statements.
  Without, item, same.
  A queue beside its list: what both hold.
-/
import Derived.Test.YtkobkilfbbalaaaK02
namespace Go.Proofs.Ytkobkilfbbalaaa
open Go.RowKit Go.Sort Go.Maps

/-- the first day, emptied, is taken out of the heap and of the map -/
theorem QCore.dropDay {w w3 w4 : World} {B qb mb : Nat} {dv dv' : Value} {n : Nat} {l : List Day} {x : Day} {rest : Array Value} {Tq : TypeId} {width count pushed : Int} {D : DataW Nat} {d' : List Dy}
    (h : QCore w B qb mb dv n (x :: l) rest Tq width count pushed) (hM : MapIs D (x :: l))
    (hb3 : Blk w3 qb (#[.int .i64 width, .int .i64 count, .int .i64 pushed, dv', .map (some mb)] ++ rest) Tq) (hd3 : DSl w3 B dv' d') (hP : (x.dy :: d').Perm ((x :: l).map Day.dy)) (hH : HeapL Dy.ltB d')
    (k3 : KeptF (fun i => i = qb ∨ dv.ownBlock = some i) w w3) (hown : dv'.ownBlock = dv.ownBlock)
    (hm4 : w4.ownsMap Try.prog 3 dayR mb n (D.del (.int .i64 x.date))) (k4 : KeptF (fun i => i = mb) w3 w4) :
    ∃ ds', QCore w4 B qb mb dv' n ds' rest Tq width count pushed ∧ ds'.Perm l ∧ KeptF (Foot qb mb dv (x :: l)) w w4 ∧ (∀ k, Foot qb mb dv' ds' k → Foot qb mb dv (x :: l) k) := by
  have A := h.apart
  have hP' : d'.Perm (l.map Day.dy) := by
    rw [List.map_cons] at hP
    exact hP.cons_inv
  obtain ⟨ds', e1, p1⟩ := perm_map_inv Day.dy hP' _ rfl
  have hmem : ∀ {y : Day}, y ∈ ds' → y ∈ x :: l := fun hy => List.mem_cons_of_mem _ (p1.mem_iff.1 hy)
  have hnd := h.nodup
  rw [List.map_cons, List.nodup_cons] at hnd
  have hne : ∀ {y : Day}, y ∈ ds' → y.date ≠ x.date := fun hy e => hnd.1 (by rw [← e]; exact List.mem_map_of_mem (p1.mem_iff.1 hy))
  refine ⟨ds', ⟨hb3.keep k4 A.qm, ⟨_, hm4, ⟨fun y hy => ?_, fun t ht => ?_⟩⟩, ?_, by rw [e1]; exact hH, fun y hy => ?_, ?_, h.lowq, h.lowm, fun y hy => h.lowk y (hmem hy), ?_⟩, p1, ?_, ?_⟩
  · have hk := keyLit_ne (hne hy)
    rw [has_del_other hk]
    refine ⟨(hM.at_ y (hmem hy)).1, fun z => ?_⟩
    rw [atKey_del_other hk]
    exact (hM.at_ y (hmem hy)).2 z
  · by_cases hx : x.date = t
    · rw [← hx]; exact has_del_same
    · rw [has_del_other (keyLit_ne (fun e => hx e.symm))]
      refine hM.not t (fun y hy => ?_)
      rcases List.mem_cons.1 hy with hy | hy
      · rw [hy]; exact hx
      · exact ht y (p1.mem_iff.2 hy)
  · rw [e1]
    exact hd3.keep k4 (fun g hg e => A.dm (by rw [← hown, hg, e]))
  · obtain ⟨h1, h2, h3⟩ := h.each y (hmem hy)
    refine ⟨(h1.keep k3 ?_).keep k4 (A.kq y (hmem hy)).2.1, (h2.keep k3 (fun g hg => ?_)).keep k4 (fun g hg e => (A.iq y (hmem hy)).2.1 (by rw [hg, e])), h3⟩
    · rintro (e | e)
      · exact (A.kq y (hmem hy)).1 e
      · exact (A.kq y (hmem hy)).2.2 e
    · rintro (e | e)
      · exact (A.iq y (hmem hy)).1 (by rw [hg, e])
      · exact (A.iq y (hmem hy)).2.2 g hg e
  · have hp : (ds'.map Day.date).Perm (l.map Day.date) := p1.map _
    rw [hp.nodup_iff]
    exact hnd.2
  · refine ⟨A.qm, by rw [hown]; exact A.dq, by rw [hown]; exact A.dm, fun y hy => ?_, fun y hy => ?_, fun y hy z hz => A.ik y (hmem hy) z (hmem hz), fun y hy z hz => A.xy y (hmem hy) z (hmem hz)⟩
    · rw [hown]; exact A.kq y (hmem hy)
    · rw [hown]; exact A.iq y (hmem hy)
  · refine (k3.weaken (fun i _ e => ?_)).trans' k4 (fun i _ e => .inr (.inl e))
    rcases e with e | e
    · exact .inl e
    · exact .inr (.inr (.inl e))
  · intro k hk
    rcases hk with hk | hk | hk | ⟨y, hy, hk⟩
    · exact .inl hk
    · exact .inr (.inl hk)
    · exact .inr (.inr (.inl (by rw [← hown]; exact hk)))
    · exact .inr (.inr (.inr ⟨y, hmem hy, hk⟩))

set_option maxRecDepth 100000 in
set_option maxHeartbeats 1000000 in
theorem pop_none (w : World) (B qb mb : Nat) (dv : Value) (n : Nat) (ds : List Day) (rest : Array Value) (Tq : TypeId) (width : Int) (pushed : Nat)
    (h : QCore w B qb mb dv n ds rest Tq width ((0 : Nat) : Int) pushed) :
    Calls Try.prog 32 #[.pointer (some ⟨qb, 0, none⟩)] w fun e w' => e = .returned (.tuple #[.agg #[.int .i64 0, .int .i64 0, .int .i64 0, .int .i64 0], .bool false]) ∧ Below w.heap.size w w' := by
  have c1 : w.cell? ⟨qb, 1, none⟩ = some (.int .i64 0) := (h.blk.cell 1).trans (five_get _ _ _ _ _ rest).2.1
  have hqb := h.blk.lt
  clear h
  go_enter Try.func32, Try.ntmps32
  go_wp2
  refine bodyPost_ret (v := .tuple #[.agg #[.int .i64 0, .int .i64 0, .int .i64 0, .int .i64 0], .bool false]) (by simp [results, Try.results32, go_sem]) rfl ⟨rfl, ?_⟩
  exact (Below.refl _ _).alloc (Nat.le_refl _) _

/-- count goes down, the result's cells are stored -/
theorem QCore.lastly {w : World} {B qb mb : Nat} {dv : Value} {n : Nat} {ds : List Day} {rest : Array Value} {Tq : TypeId} {width pushed : Int} {c c' : Int}
    (h : QCore w B qb mb dv n ds rest Tq width c pushed) {R : Nat} (hR : ¬ Foot qb mb dv ds R) (u0 u1 u2 u3 : Value) :
    QCore (((((w.setCell ⟨qb, 1, none⟩ (.int .i64 c')).setCell ⟨R, 0, none⟩ u0).setCell ⟨R, 1, none⟩ u1).setCell ⟨R, 2, none⟩ u2).setCell ⟨R, 3, none⟩ u3) B qb mb dv n ds rest Tq width c' pushed ∧
    KeptF (fun k => k = qb ∨ k = R) w (((((w.setCell ⟨qb, 1, none⟩ (.int .i64 c')).setCell ⟨R, 0, none⟩ u0).setCell ⟨R, 1, none⟩ u1).setCell ⟨R, 2, none⟩ u2).setCell ⟨R, 3, none⟩ u3) := by
  have hb := h.blk.set 1 (.int .i64 c')
  rw [(five_set _ _ _ _ _ (.int .i64 c') rest).1] at hb
  have k1 := (KeptF.refl (fun k => k = qb) w).setCell (p := ⟨qb, 1, none⟩) (.inl rfl) (.int .i64 c')
  have h1 := h.setNum hb k1
  have k2 : KeptF (fun k => k = R) (w.setCell ⟨qb, 1, none⟩ (.int .i64 c')) (((((w.setCell ⟨qb, 1, none⟩ (.int .i64 c')).setCell ⟨R, 0, none⟩ u0).setCell ⟨R, 1, none⟩ u1).setCell ⟨R, 2, none⟩ u2).setCell ⟨R, 3, none⟩ u3) :=
    ((((KeptF.refl (fun k => k = R) _).setCell (p := ⟨R, 0, none⟩) (.inl rfl) u0).setCell (p := ⟨R, 1, none⟩) (.inl rfl) u1).setCell (p := ⟨R, 2, none⟩) (.inl rfl) u2).setCell (p := ⟨R, 3, none⟩) (.inl rfl) u3
  exact ⟨h1.keep k2 (fun i hi e => hR (by rw [← e]; exact hi)), (k1.weaken (fun _ _ e => .inl e)).trans' k2 (fun _ _ e => .inr e)⟩

theorem popped_all {x : Day} {l : List Day} {e : Ent} {d1 : List Ent} {kb : Nat} {dt : Int} {iv : Value} (hP : (e :: d1).Perm x.es) : (e :: allEs (⟨kb, dt, iv, d1⟩ :: l)).Perm (allEs (x :: l)) := by
  simp only [allEs, List.flatMap_cons]
  have := hP.append_right (List.flatMap Day.es l)
  simpa using this

set_option maxRecDepth 100000 in
set_option maxHeartbeats 4000000 in
theorem pop_some (w : World) (B qb mb : Nat) (dv : Value) (n : Nat) (l : List Day) (x : Day) (rest : Array Value) (Tq : TypeId) (width : Int) (count pushed : Nat) (e : Ent) (r : List Ent)
    (h : QCore w B qb mb dv n (x :: l) rest Tq width ((count + 1 : Nat) : Int) pushed) (hF : Filled width (x :: l)) (he : x.es = e :: r) (hw1 : 1 ≤ width) (hT : ∀ e ∈ x.es, InInt e.it.t) (hc : count < 2932031007317) (hle : x.es.length ≤ 2932031007317) (hll : l.length + 1 ≤ 2932031007317) :
    Calls Try.prog 32 #[.pointer (some ⟨qb, 0, none⟩)] w fun e' w' => e' = .returned (.tuple #[.agg #[.int .i64 e.it.t, .int .i64 e.it.f, .int .i64 e.it.s, .int .i64 e.it.l], .bool true]) ∧
      ∃ dv' ds', QCore w' B qb mb dv' n ds' rest Tq width count pushed ∧ (e :: allEs ds').Perm (allEs (x :: l)) ∧ Filled width ds' ∧ KeptF (Foot qb mb dv (x :: l)) w w' ∧ (∀ k, Foot qb mb dv' ds' k → Foot qb mb dv (x :: l) k ∨ w.heap.size ≤ k) ∧ ds'.length ≤ l.length + 1 := by
  obtain ⟨g, cap, gi, ci, hdv, hiv, hA, hE, _, hcm, hBg, hBgi⟩ := h.top he
  obtain ⟨z, hz⟩ := get_of_lt (d := x.es) (k := r.length) (by rw [he]; simp)
  have A := h.apart
  have hgk : gi ≠ x.kb := fun e => A.ik x (by simp) x (by simp) (by rw [hiv, ← e]; rfl)
  -- the world with the result's cells
  have k0 : KeptF (fun _ => False) w (w.alloc (.cells #[.int .i64 0, .int .i64 0, .int .i64 0, .int .i64 0] 102)) := (KeptF.refl _ w).alloc _
  have hR0 : Blk (w.alloc (.cells #[.int .i64 0, .int .i64 0, .int .i64 0, .int .i64 0] 102)) w.heap.size #[.int .i64 0, .int .i64 0, .int .i64 0, .int .i64 0] 102 := heap_alloc_new w _
  have h0 := h.keep k0 (fun _ _ e => e)
  have hA0 := hA.keep k0 (fun e => e)
  have hE0 := hE.keep k0 (fun e => e)
  have hs0 : (w.alloc (.cells #[.int .i64 0, .int .i64 0, .int .i64 0, .int .i64 0] 102)).heap.size = w.heap.size + 1 := by simp
  generalize hW0 : w.alloc (.cells #[.int .i64 0, .int .i64 0, .int .i64 0, .int .i64 0] 102) = W0 at *
  have hpop := popE_any x.kb 1 151 gi ci r.length #[.int .i64 x.date, x.iv] x.es e z W0 (h0.each x (by simp)).1 (by rw [← hiv]; rfl) hE0 (by rw [he]; rfl) hgk (by rw [he] at hle; exact hle) (h0.each x (by simp)).2.2 (by rw [he]; rfl) hz
  have c1 : W0.cell? ⟨qb, 1, none⟩ = some (.int .i64 ((count + 1 : Nat) : Int)) := (h0.blk.cell 1).trans (five_get _ _ _ _ _ rest).2.1
  have c3 : W0.cell? ⟨qb, 3, none⟩ = some (.slice (some ⟨g, 0, none⟩) (l.length + 1) cap) := by rw [← hdv]; exact (h0.blk.cell 3).trans (five_get _ _ _ _ _ rest).2.2.2.1
  have d0 : W0.cell? ⟨g, 0, none⟩ = some (.pointer (some ⟨x.kb, 0, none⟩)) := hA0.cells (j := 0) (e := x.dy) rfl
  have hqb := h.blk.lt
  have hc0 : (((count + 1 : Nat) : Int) == 0) = false := beq_eq_false_iff_ne.2 (by omega)
  have Hs0 : Hid (W0.heap.size = w.heap.size + 1) := hs0
  clear hs0
  go_enter Try.func32, Try.ntmps32
  go_wp2_with fail
  refine hpop.mono ?_
  rintro e' w1 ⟨rfl, d1, hb1, hE1, hP1, hH1, k1⟩
  have hl1 : d1.length = r.length := by
    have := hP1.length_eq
    rw [he] at this
    simpa using this
  have k1' : KeptF (fun i => i = x.kb ∨ x.iv.ownBlock = some i) W0 w1 := k1.weaken (fun i _ e => e.imp id (fun e => by rw [hiv, e]; rfl))
  have hb1' : Blk w1 x.kb #[.int .i64 x.date, .slice (some ⟨gi, 0, none⟩) r.length ci] 151 := hb1
  have hE1' : ESl w1 B (.slice (some ⟨gi, 0, none⟩) r.length ci) d1 := by rw [← hl1]; exact ESl.mk hBgi hcm hE1
  have hgo : ∀ k, (Value.slice (some ⟨gi, 0, none⟩) r.length ci).ownBlock = some k → x.iv.ownBlock = some k ∨ W0.heap.size ≤ k := fun k hk => .inl (by rw [hiv]; exact hk)
  have h1 : QCore w1 B qb mb dv n (⟨x.kb, x.date, .slice (some ⟨gi, 0, none⟩) r.length ci, d1⟩ :: l) rest Tq width ((count + 1 : Nat) : Int) pushed :=
    QCore.replace (l1 := []) (x := x) h0 k1' hb1' hE1' hH1 hgo
  have hft1 : ∀ k, Foot qb mb dv (⟨x.kb, x.date, .slice (some ⟨gi, 0, none⟩) r.length ci, d1⟩ :: l) k → Foot qb mb dv (x :: l) k := by
    intro k hk
    rcases Foot.replace (l1 := []) (x := x) (s := W0.heap.size) hgo hk with h' | h'
    · exact h'
    · have := (h1.foot_lt hk).2
      rcases hk with hk | hk | hk | ⟨y, hy, hk⟩
      · exact .inl hk
      · exact .inr (.inl hk)
      · exact .inr (.inr (.inl hk))
      · rcases List.mem_cons.1 hy with hy | hy
        · subst hy
          rcases hk with hk | hk
          · exact .inr (.inr (.inr ⟨x, by simp, .inl hk⟩))
          · exact .inr (.inr (.inr ⟨x, by simp, .inr (by rw [hiv]; exact hk)⟩))
        · exact .inr (.inr (.inr ⟨y, by simp [hy], hk⟩))
  have hnR : ¬ Foot qb mb dv (x :: l) w.heap.size := fun hk => by have := (h.foot_lt hk).2; omega
  have hK1 : KeptF (Foot qb mb dv (x :: l)) w w1 := (k0.weaken (fun _ _ e => e.elim)).trans' k1' (fun i _ e => .inr (.inr (.inr ⟨x, by simp, e⟩)))
  have hR1 := hR0.keep k1' (fun e => hnR (.inr (.inr (.inr ⟨x, by simp, e⟩))))
  have hs1 : w.heap.size < w1.heap.size := by have := k1.size; have := Hs0.out; omega
  have hnX : ∀ k, Foot qb mb dv (⟨x.kb, x.date, .slice (some ⟨gi, 0, none⟩) r.length ci, d1⟩ :: l) k → k < w1.heap.size := fun k hk => (h1.foot_lt hk).2
  have hnR2 : ¬ Foot qb mb dv (⟨x.kb, x.date, .slice (some ⟨gi, 0, none⟩) r.length ci, d1⟩ :: l) w.heap.size := fun hk => hnR (hft1 _ hk)
  have hkb1 : x.kb < w1.heap.size := (h1.each _ (List.mem_cons_self ..)).1.lt
  have hqb1 : qb < w1.heap.size := h1.blk.lt
  have q1 : w1.cell? ⟨x.kb, 1, none⟩ = some (.slice (some ⟨gi, 0, none⟩) r.length ci) := by
    rw [(h1.each _ (List.mem_cons_self ..)).1.cell]; rfl
  have hqR : qb ≠ w.heap.size := by omega
  have hqR' : w.heap.size ≠ qb := by omega
  clear hpop hR0 hA0 hE0 c1 c3 d0 hb1 hE1 k1 k1' hb1' hE1' hgo h0 k0
  by_cases hr : r = []
  · subst hr
    have hd1 : d1 = [] := List.eq_nil_of_length_eq_zero hl1
    have kX : KeptF (fun _ => False) w1 (w1.alloc (.cells #[.int .i64 e.it.t, .int .i64 e.it.f, .int .i64 e.it.s, .int .i64 e.it.l, .int .i64 e.r] 156)) := (KeptF.refl _ w1).alloc _
    have hX : Blk (w1.alloc (.cells #[.int .i64 e.it.t, .int .i64 e.it.f, .int .i64 e.it.s, .int .i64 e.it.l, .int .i64 e.r] 156)) w1.heap.size #[.int .i64 e.it.t, .int .i64 e.it.f, .int .i64 e.it.s, .int .i64 e.it.l, .int .i64 e.r] 156 := heap_alloc_new w1 _
    have h2 := h1.keep kX (fun _ _ e => e)
    have hR2 := hR1.keep kX (fun e => e)
    have hK2 := hK1.trans' kX (fun _ _ e => e.elim)
    have A2 := h2.apart
    obtain ⟨hA2, hcap⟩ : DArr (w1.alloc (.cells #[.int .i64 e.it.t, .int .i64 e.it.f, .int .i64 e.it.s, .int .i64 e.it.l, .int .i64 e.r] 156)) g 152 cap (((⟨x.kb, x.date, .slice (some ⟨gi, 0, none⟩) ([] : List Ent).length ci, d1⟩ : Day) :: l).map Day.dy) ∧ cap ≤ maxLen := by
      rcases h2.days.cases with ⟨hn, _⟩ | ⟨g2, cap2, hd2, _, hc2, hA2⟩
      · rw [hdv] at hn; cases hn
      · rw [hdv] at hd2
        simp only [Value.slice.injEq, Option.some.injEq, Addr.mk.injEq, and_true] at hd2
        obtain ⟨eg, _, ec⟩ := hd2
        rw [eg, ec]
        exact ⟨hA2, hc2⟩
    obtain ⟨zz, hzz⟩ := get_of_lt (d := (((⟨x.kb, x.date, .slice (some ⟨gi, 0, none⟩) ([] : List Ent).length ci, d1⟩ : Day) :: l).map Day.dy)) (k := l.length) (by simp)
    have hgq : g ≠ qb := fun e => A2.dq (by rw [hdv, ← e]; rfl)
    have hpopD := popD_any qb 3 Tq g cap l.length _ _ (⟨x.kb, x.date⟩ : Dy) zz _ h2.blk (by rw [(five_get _ _ _ _ _ rest).2.2.2.1, hdv]) hA2 (by simp) hgq hll h2.heap rfl hzz
      (by
        intro e he
        obtain ⟨y, hy, rfl⟩ := List.mem_map.1 he
        show World.cell? _ ⟨y.kb, 0, none⟩ = some (.int .i64 y.date)
        rw [(h2.each y hy).1.cell]
        rfl)
      (by
        intro e he
        obtain ⟨y, hy, rfl⟩ := List.mem_map.1 he
        refine ⟨(A2.kq y hy).1, fun e => (A2.kq y hy).2.2 ?_⟩
        rw [hdv, ← e]
        rfl)
    go_wp2_with fail
    refine hpopD.mono ?_
    rintro e' w3 ⟨rfl, d3, hb3, hA3, hP3, hH3, k3⟩
    rw [(five_set _ _ _ _ _ (.slice (some ⟨g, 0, none⟩) l.length cap) rest).2.2] at hb3
    have hl3 : d3.length = l.length := by
      have := hP3.length_eq
      simpa using this
    have hd3 : DSl w3 B (.slice (some ⟨g, 0, none⟩) l.length cap) d3 := by rw [← hl3]; exact DSl.mk hBg hcap hA3
    have k3' : KeptF (fun i => i = qb ∨ dv.ownBlock = some i) (w1.alloc (.cells #[.int .i64 e.it.t, .int .i64 e.it.f, .int .i64 e.it.s, .int .i64 e.it.l, .int .i64 e.r] 156)) w3 := k3.weaken (fun i _ e => e.imp id (fun e => by rw [hdv, e]; rfl))
    obtain ⟨D, hown, hM⟩ := h2.map
    have hown3 := ownsMap_keep hown k3' (by
      rintro (e | e)
      · exact A2.qm e.symm
      · exact A2.dm e)
    have hkey : keyOf Try.prog 3 (.int .i64 x.date) = some (.int .i64 x.date) := by
      have he0 := (hF x (by simp)).2 e (by rw [he]; simp)
      exact keyOf_int_mk (P := Try.prog) Try.underlying3 (wf_i64 (by rw [← he0]; exact tdiv_range (hT e (by rw [he]; simp)) hw1))
    obtain ⟨w4, hdel, hown4, hturn⟩ := hown3.drew.drop key_law Try.underlying96 hkey 0
    have hg4 := hturn.grown
    have k4 : KeptF (fun i => i = mb) w3 w4 := (KeptF.refl (fun i => i = mb) w3).drew.trans (KeptF.of_grown (F := fun i => i = mb) hg4 (fun k e _ => by cases e; rfl))
    obtain ⟨ds', hQ, hPd, hKd, hfd⟩ := h2.dropDay hM hb3 hd3 hP3 hH3 k3' (by rw [hdv]; rfl) hown4 k4
    have m3 : w3.cell? ⟨qb, 4, none⟩ = some (.map (some mb)) := (hb3.cell 4).trans (five_get _ _ _ _ _ rest).2.2.2.2
    have hx3 : Blk w3 x.kb #[.int .i64 x.date, .slice (some ⟨gi, 0, none⟩) ([] : List Ent).length ci] 151 := (h2.each _ (List.mem_cons_self ..)).1.keep k3' (by
      rintro (e | e)
      · exact (A2.kq _ (List.mem_cons_self ..)).1 e
      · exact (A2.kq _ (List.mem_cons_self ..)).2.2 e)
    have x3 : w3.cell? ⟨x.kb, 0, none⟩ = some (.int .i64 x.date) := by rw [hx3.cell]; rfl
    have hnR4 : ¬ Foot qb mb dv (⟨x.kb, x.date, .slice (some ⟨gi, 0, none⟩) ([] : List Ent).length ci, d1⟩ :: l) w1.heap.size := fun hk => by have := hnX _ hk; omega
    have hR4 := hR2.keep hKd hnR2
    have hX4 := hX.keep hKd hnR4
    have q2 : w4.cell? ⟨qb, 1, none⟩ = some (.int .i64 ((count : Int) + 1)) := (hQ.blk.cell 1).trans (five_get _ _ _ _ _ rest).2.1
    have qz := hQ.blk.frozen 1
    have Rz := hR4.frozen
    have r0 := hR4.cell 0
    have r1 := hR4.cell 1
    have r2 := hR4.cell 2
    have r3 := hR4.cell 3
    have x0 := hX4.cell 0
    have x1 := hX4.cell 1
    have x2 := hX4.cell 2
    have x4 := hX4.cell 3
    simp only [List.getElem?_toArray, List.getElem?_cons_zero, List.getElem?_cons_succ] at r0 r1 r2 r3 x0 x1 x2 x4
    have hXR : w1.heap.size ≠ w.heap.size := by omega
    have hqX : w1.heap.size ≠ qb := by omega
    have hfin := fun u0 u1 u2 u3 => hQ.lastly (c' := (count : Int)) (R := w.heap.size) (fun hk => hnR2 (hfd _ hk)) u0 u1 u2 u3
    clear hpopD k3 hb3 hA3 hown hown3 hkey hX hX4 hR4 hx3
    go_wp2
    refine still_tail' 8 (by kernel_rfl) (by kernel_rfl) ?_
    simp only [List.take_succ_cons, List.take_zero, List.drop_succ_cons, List.drop_zero]
    repeat still_step
    refine wpStill_nil ?_
    go_wp2
    obtain ⟨hq, hk⟩ := hfin (.int .i64 e.it.t) (.int .i64 e.it.f) (.int .i64 e.it.s) (.int .i64 e.it.l)
    refine bodyPost_ret (v := .tuple #[.agg #[.int .i64 e.it.t, .int .i64 e.it.f, .int .i64 e.it.s, .int .i64 e.it.l], .bool true]) (by simp [results, Try.results32, go_sem, r0, r1, r2, r3]) rfl ⟨rfl, _, ds', hq, ?_, ?_, ?_, fun k hk => .inl (hft1 k (hfd k hk)), by rw [hPd.length_eq]; omega⟩
    · refine List.Perm.trans (List.Perm.cons e ?_) (popped_all (x := x) (l := l) (kb := x.kb) (dt := x.date) (iv := x.iv) hP1)
      rw [hd1]
      simp only [allEs, List.flatMap_cons, List.nil_append]
      exact hPd.flatMap_right Day.es
    · intro y hy
      exact hF y (List.mem_cons_of_mem _ (hPd.mem_iff.1 hy))
    · refine (hK2.trans' hKd (fun i _ e => hft1 i e)).trans' hk (fun i hi e => ?_)
      rcases e with e | e
      · exact .inl e
      · omega
  · have hr0 : ((r.length : Int) == 0) = false := by
      rw [beq_eq_false_iff_ne]
      intro e0
      exact hr (List.eq_nil_of_length_eq_zero (by omega))
    have q2 : w1.cell? ⟨qb, 1, none⟩ = some (.int .i64 ((count : Int) + 1)) := (h1.blk.cell 1).trans (five_get _ _ _ _ _ rest).2.1
    have qz := h1.blk.frozen 1
    have Rz := hR1.frozen
    have r0 := hR1.cell 0
    have r1 := hR1.cell 1
    have r2 := hR1.cell 2
    have r3 := hR1.cell 3
    simp only [List.getElem?_toArray, List.getElem?_cons_zero, List.getElem?_cons_succ] at r0 r1 r2 r3
    have hfin := fun u0 u1 u2 u3 => h1.lastly (c' := (count : Int)) hnR2 u0 u1 u2 u3
    go_wp2
    obtain ⟨hq, hk⟩ := hfin (.int .i64 e.it.t) (.int .i64 e.it.f) (.int .i64 e.it.s) (.int .i64 e.it.l)
    refine bodyPost_ret (v := .tuple #[.agg #[.int .i64 e.it.t, .int .i64 e.it.f, .int .i64 e.it.s, .int .i64 e.it.l], .bool true]) (by simp [results, Try.results32, go_sem, r0, r1, r2, r3, hs1]) rfl ⟨rfl, dv, _, hq.keep ((KeptF.refl (fun _ => False) _).alloc _) (fun _ _ e => e), popped_all hP1, ?_, ?_, fun k hk => .inl (hft1 k hk), by simp⟩
    · intro y hy
      rcases List.mem_cons.1 hy with hy | hy
      · subst hy
        refine ⟨fun h0 => hr (List.eq_nil_of_length_eq_zero ?_), fun e' he' => (hF x (by simp)).2 e' (hP1.mem_iff.1 (List.mem_cons_of_mem _ he'))⟩
        have h0' : d1 = [] := h0
        rw [← hl1, h0']; rfl
      · exact hF y (by simp [hy])
    · refine (hK1.trans' hk (fun i hi e => ?_)).alloc _
      rcases e with e | e
      · exact .inl e
      · omega

end Go.Proofs.Ytkobkilfbbalaaa

namespace Go.Proofs.Ytkobkilfbbalaaa
open Go.RowKit Go.Sort Go.Maps

def itC (x : It) : List Value := [.int .i64 x.t, .int .i64 x.f, .int .i64 x.s, .int .i64 x.l]
def itsC : List It → List Value
  | [] => []
  | x :: l => itC x ++ itsC l

theorem itsC_length : ∀ l : List It, (itsC l).length = l.length * 4
  | [] => rfl
  | x :: l => by simp only [itsC, List.length_append, itsC_length l, List.length_cons]; simp only [itC, List.length_cons, List.length_nil]; omega
theorem itsC_append : ∀ (l l' : List It), itsC (l ++ l') = itsC l ++ itsC l'
  | [], l' => rfl
  | x :: l, l' => by simp only [List.cons_append, itsC, itsC_append l l', List.append_assoc]
theorem itsC_get : ∀ (l : List It) (j : Nat) (x : It) (k : Nat), l[j]? = some x → k < 4 → (itsC l)[j * 4 + k]? = (itC x)[k]?
  | [], j, x, k, h, _ => by simp at h
  | a :: l, 0, x, k, h, hk => by
    simp only [List.getElem?_cons_zero, Option.some.injEq] at h
    subst h
    simp only [itsC, Nat.zero_mul, Nat.zero_add]
    rw [List.getElem?_append_left (by simp [itC]; omega)]
  | a :: l, j + 1, x, k, h, hk => by
    simp only [List.getElem?_cons_succ] at h
    simp only [itsC]
    rw [List.getElem?_append_right (by simp [itC]; omega)]
    have : (j + 1) * 4 + k - (itC a).length = j * 4 + k := by simp [itC]; omega
    rw [this]
    exact itsC_get l j x k h hk
theorem itsC_one : ∀ (l : List It), ∀ u ∈ itsC l, u.oneCell' = true
  | [], u, h => by simp [itsC] at h
  | x :: l, u, h => by
    simp only [itsC, List.mem_append] at h
    rcases h with h | h
    · simp only [itC, List.mem_cons, List.not_mem_nil, or_false] at h
      rcases h with rfl | rfl | rfl | rfl <;> rfl
    · exact itsC_one l u h
theorem itsC_take (l : List It) (n : Nat) : itsC (l.take n) = (itsC l).take (n * 4) := by
  induction l generalizing n with
  | nil => simp [itsC]
  | cons a l ih =>
    cases n with
    | zero => simp [itsC]
    | succ n =>
      simp only [List.take_succ_cons, itsC, ih]
      rw [List.take_append]
      have h1 : (itC a).length = 4 := rfl
      rw [h1, show (n + 1) * 4 - 4 = n * 4 by omega, List.take_of_length_le (l := itC a) (by rw [h1]; omega)]
theorem itsC_drop (l : List It) (n : Nat) : itsC (l.drop n) = (itsC l).drop (n * 4) := by
  induction l generalizing n with
  | nil => simp [itsC]
  | cons a l ih =>
    cases n with
    | zero => simp [itsC]
    | succ n =>
      simp only [List.drop_succ_cons, itsC, ih]
      rw [List.drop_append]
      have h1 : (itC a).length = 4 := rfl
      rw [h1, show (n + 1) * 4 - 4 = n * 4 by omega, List.drop_of_length_le (l := itC a) (by rw [h1]; omega), List.nil_append]

def ISl (w : World) (B : Nat) (v : Value) (l : List It) : Prop := w.ownsRow B 47 4 v l.length (itsC l)

theorem ISl.nil (w : World) (B : Nat) : ISl w B (.slice none 0 0) [] := World.ownsRow_nil w B _ _
theorem ISl.keep {F : Nat → Prop} {w w' : World} {B : Nat} {v : Value} {l : List It} (h : ISl w B v l) (k : KeptF F w w') (hF : ∀ g, v.ownBlock = some g → ¬ F g) : ISl w' B v l := ownsRow_keep h k hF
theorem ISl.form {w : World} {B : Nat} {v : Value} {l : List It} (h : ISl w B v l) : (v = .slice none 0 0 ∧ l = []) ∨ ∃ g cap, v = .slice (some ⟨g, 0, none⟩) l.length cap ∧ l.length ≤ cap := by
  rcases h.2 with ⟨h1, h2⟩ | ⟨g, cap, cur, h1, _, _, h3, _⟩
  · exact .inl ⟨h1, List.eq_nil_of_length_eq_zero h2⟩
  · exact .inr ⟨g, cap, h1, h3⟩
theorem ISl.cells {w : World} {B g cap : Nat} {l : List It} (h : ISl w B (.slice (some ⟨g, 0, none⟩) l.length cap) l) {j : Nat} {x : It} (hx : l[j]? = some x) :
    w.cell? ⟨g, j * 4, none⟩ = some (.int .i64 x.t) ∧ w.cell? ⟨g, j * 4 + 1, none⟩ = some (.int .i64 x.f) ∧ w.cell? ⟨g, j * 4 + 2, none⟩ = some (.int .i64 x.s) ∧ w.cell? ⟨g, j * 4 + 3, none⟩ = some (.int .i64 x.l) := by
  have hj := get_lt hx
  have key : ∀ k, k < 4 → w.cell? ⟨g, j * 4 + k, none⟩ = (itC x)[k]? := by
    intro k hk
    rw [World.ownsRow.cellAt h (j * 4 + k) (by omega), itsC_get l j x k hx hk]
  exact ⟨key 0 (by omega), key 1 (by omega), key 2 (by omega), key 3 (by omega)⟩
theorem ISl.lt {w : World} {B : Nat} {v : Value} {l : List It} (h : ISl w B v l) {g : Nat} (hg : v.ownBlock = some g) : B ≤ g ∧ g < w.heap.size := World.ownsRow.lt h g hg

def It.aheadB (x y : It) : Bool := if x.t = y.t then (if x.f = y.f then decide (x.s < y.s) else decide (x.f < y.f)) else decide (x.t < y.t)
theorem It.aheadB_iff (x y : It) : x.aheadB y = true ↔ x.lt y := by
  unfold It.aheadB It.lt
  split
  · split <;> simp only [decide_eq_true_eq] <;> omega
  · simp only [decide_eq_true_eq]; omega

set_option maxRecDepth 100000 in
set_option maxHeartbeats 1000000 in
theorem ahead_any (a b c d a' b' c' d' : Int) (w : World) :
    Calls Try.prog 59 #[.agg #[.int .i64 a, .int .i64 b, .int .i64 c, .int .i64 d], .agg #[.int .i64 a', .int .i64 b', .int .i64 c', .int .i64 d']] w fun e w' => e = .returned (.bool (It.aheadB ⟨a, b, c, d⟩ ⟨a', b', c', d'⟩)) ∧ Below w.heap.size w w' := by
  by_cases h1 : a = a'
  · by_cases h2 : b = b'
    · have H : It.aheadB ⟨a, b, c, d⟩ ⟨a', b', c', d'⟩ = decide (c < c') := by simp [It.aheadB, h1, h2]
      have n1 : (a != a') = false := by simp [h1]
      have n2 : (b != b') = false := by simp [h2]
      clear h1 h2
      go_enter Try.func59, Try.ntmps59
      go_wp2
      go_ret
      exact ⟨ret_bool H.symm, ((Below.refl _ _).alloc (Nat.le_refl _) _).alloc (by simp) _⟩
    · have H : It.aheadB ⟨a, b, c, d⟩ ⟨a', b', c', d'⟩ = decide (b < b') := by simp [It.aheadB, h1, h2]
      have n1 : (a != a') = false := by simp [h1]
      have n2 : (b != b') = true := by simp [h2]
      clear h1 h2
      go_enter Try.func59, Try.ntmps59
      go_wp2
      go_ret
      exact ⟨ret_bool H.symm, ((Below.refl _ _).alloc (Nat.le_refl _) _).alloc (by simp) _⟩
  · have H : It.aheadB ⟨a, b, c, d⟩ ⟨a', b', c', d'⟩ = decide (a < a') := by simp [It.aheadB, h1]
    have n1 : (a != a') = true := by simp [h1]
    clear h1
    go_enter Try.func59, Try.ntmps59
    go_wp2
    go_ret
    exact ⟨ret_bool H.symm, ((Below.refl _ _).alloc (Nat.le_refl _) _).alloc (by simp) _⟩

/-- kk is the number of the first least item among the first i; -1 if there is none -/
def LeastUpto (l : List It) (i : Nat) (kk : Int) : Prop :=
  (i = 0 ∧ kk = -1) ∨ ∃ (j : Nat) (x : It), kk = j ∧ j < i ∧ l[j]? = some x ∧ (∀ (m : Nat) (y : It), m < i → l[m]? = some y → ¬ y.lt x) ∧ (∀ (m : Nat) (y : It), m < j → l[m]? = some y → x.lt y)

theorem LeastUpto.turn {l : List It} {i j : Nat} {x y : It} (h : LeastUpto l i j) (hy : l[j]? = some y) (hx : l[i]? = some x) (hl : x.lt y) : LeastUpto l (i + 1) i := by
  rcases h with ⟨_, h⟩ | ⟨j', z, hj, hji, hz, h1, h2⟩
  · omega
  · have : j' = j := by omega
    subst this
    rw [hy] at hz; cases hz
    refine .inr ⟨i, x, rfl, by omega, hx, fun m u hm hu => ?_, fun m u hm hu => ?_⟩
    · by_cases hmi : m = i
      · subst hmi; rw [hx] at hu; cases hu
        unfold It.lt; omega
      · have := h1 m u (by omega) hu
        unfold It.lt at *; omega
    · have := h1 m u hm hu
      unfold It.lt at *; omega
theorem LeastUpto.stay {l : List It} {i j : Nat} {x y : It} (h : LeastUpto l i j) (hy : l[j]? = some y) (hx : l[i]? = some x) (hl : ¬ x.lt y) : LeastUpto l (i + 1) j := by
  rcases h with ⟨_, h⟩ | ⟨j', z, hj, hji, hz, h1, h2⟩
  · omega
  · have : j' = j := by omega
    subst this
    rw [hy] at hz; cases hz
    refine .inr ⟨j', y, rfl, by omega, hy, fun m u hm hu => ?_, h2⟩
    by_cases hmi : m = i
    · subst hmi; rw [hx] at hu; cases hu; exact hl
    · exact h1 m u (by omega) hu
theorem LeastUpto.first {l : List It} {x : It} (hx : l[0]? = some x) : LeastUpto l 1 0 :=
  .inr ⟨0, x, rfl, by omega, hx, fun m u hm hu => by
    have : m = 0 := by omega
    subst this; rw [hx] at hu; cases hu
    unfold It.lt; omega, fun m u hm => by omega⟩

theorem ahead_grown (x y : It) (w : World) (v : Bool) (hv : x.aheadB y = v) (p : Regrown) :
    Calls Try.prog 59 #[.agg #[.int .i64 x.t, .int .i64 x.f, .int .i64 x.s, .int .i64 x.l], .agg #[.int .i64 y.t, .int .i64 y.f, .int .i64 y.s, .int .i64 y.l]] (grow (redrawn w p.d) p.os) fun e w'' => e = .returned (.bool v) ∧ ∃ p : Regrown, w'' = grow (redrawn w p.d) p.os := by
  subst hv
  exact Calls.regrown_of (ahead_any x.t x.f x.s x.l y.t y.f y.s y.l _)

set_option maxRecDepth 100000 in
set_option maxHeartbeats 4000000 in
theorem refLeast_any (w : World) (B : Nat) (v : Value) (l : List It) (h : ISl w B v l) (hn : l.length ≤ 2932031007317) :
    Calls Try.prog 29 #[v] w fun e w' => ∃ kk : Int, e = .returned (.int .i64 kk) ∧ LeastUpto l l.length kk ∧ Below w.heap.size w w' := by
  rcases h.form with ⟨rfl, rfl⟩ | ⟨g, cap, rfl, hcap⟩
  · go_enter Try.func29, Try.ntmps29
    go_wp2
    refine wp_loop_rounds 1 ?_
    rw [rounds_succ]
    go_wp2
    go_ret
    exact ⟨-1, rfl, .inl ⟨rfl, rfl⟩, Below.refl _ _⟩
  · obtain ⟨n, hln⟩ : ∃ n, n = l.length := ⟨_, rfl⟩
    have Hn : Hid (n = l.length) := hln
    rw [← hln] at hn hcap
    rw [← hln]
    have hW : Hid (ISl w B (.slice (some ⟨g, 0, none⟩) l.length cap) l) := h
    clear h hln
    go_enter Try.func29, Try.ntmps29
    go_wp2
    go_loopw [3, 4] (fun sk si wr => ∃ (i : Nat) (kk : Int), si = .int .i64 i ∧ sk = .int .i64 kk ∧ i ≤ n ∧ LeastUpto l i kk ∧ Below w.heap.size w wr) (fun _ si _ => n - (intOf si).toNat)
    case atStart => exact ⟨0, -1, rfl, rfl, by omega, .inl ⟨rfl, rfl⟩, Below.refl _ _⟩
    case round =>
      obtain ⟨i, kk, rfl, rfl, hin, hL, hB⟩ := hrel
      have hI : Hid (ISl wr B (.slice (some ⟨g, 0, none⟩) l.length cap) l) := hW.out.keep (KeptF.of_below (F := fun _ => False) hB) (fun _ _ e => e)
      by_cases hlt : i < n
      · obtain ⟨x, hx⟩ := get_of_lt (d := l) (k := i) (by have := Hn.out; omega)
        have Hx : Hid (l[i]? = some x) := hx
        obtain ⟨c0, c1, c2, c3⟩ := hI.out.cells hx
        have k0 := cell_regrown c0
        have k1 := cell_regrown c1
        have k2 := cell_regrown c2
        have k3 := cell_regrown c3
        clear hx
        rcases hL with ⟨hi0, rfl⟩ | ⟨j, y, rfl, hji, hy, h1, h2⟩
        · subst hi0
          go_wp2
          go_quiet (fail)
          have hbl := below_drewN wr nq
          clear c0 c1 c2 c3 k0 k1 k2 k3
          go_wp2
          go_roundw
          case rel => exact ⟨1, 0, by go_num, rfl, by omega, LeastUpto.first Hx.out, hB.trans (hbl.mono hB.size)⟩
          case measure => simp [intOf]; omega
        · have hL : LeastUpto l i j := .inr ⟨j, y, rfl, hji, hy, h1, h2⟩
          have Hy : Hid (l[j]? = some y) := hy
          obtain ⟨d0, d1, d2, d3⟩ := hI.out.cells hy
          have l0 := cell_regrown d0
          have l1 := cell_regrown d1
          have l2 := cell_regrown d2
          have l3 := cell_regrown d3
          have hjn : j < n := by omega
          have hj0 : decide ((j : Int) < 0) = false := decide_eq_false (by omega)
          clear hy h1 h2
          cases hv : x.aheadB y with
          | false =>
            have Hv : Hid (¬ x.lt y) := fun h => by rw [(It.aheadB_iff x y).2 h] at hv; cases hv
            have hcall := ahead_grown x y wr false hv
            clear hv
            go_wp2
            refine wp_region_quiet_below (by kernel_rfl) (by kernel_rfl) ?_
            repeat (go_big_quiet_step (exact hcall _))
            refine wpQuiet_nil ?_
            intro wq hw'
            have hbl := below_of_regrown hw'
            clear hw' c0 c1 c2 c3 k0 k1 k2 k3 d0 d1 d2 d3 l0 l1 l2 l3 hcall
            go_wp2
            go_roundw
            case rel => exact ⟨i + 1, j, by go_num, rfl, by omega, hL.stay Hy.out Hx.out Hv.out, hB.trans (hbl.mono hB.size)⟩
            case measure => simp [intOf]; omega
          | true =>
            have Hv : Hid (x.lt y) := (It.aheadB_iff x y).1 hv
            have hcall := ahead_grown x y wr true hv
            clear hv
            go_wp2
            refine wp_region_quiet_below (by kernel_rfl) (by kernel_rfl) ?_
            repeat (go_big_quiet_step (exact hcall _))
            refine wpQuiet_nil ?_
            intro wq hw'
            have hbl := below_of_regrown hw'
            clear hw' c0 c1 c2 c3 k0 k1 k2 k3 d0 d1 d2 d3 l0 l1 l2 l3 hcall
            go_wp2
            go_roundw
            case rel => exact ⟨i + 1, i, by go_num, rfl, by omega, hL.turn Hy.out Hx.out Hv.out, hB.trans (hbl.mono hB.size)⟩
            case measure => simp [intOf]; omega
      · have hie : i = n := by omega
        subst hie
        go_wp2
        go_ret
        exact ⟨kk, rfl, hL, hB⟩

end Go.Proofs.Ytkobkilfbbalaaa

namespace Go.Proofs.Ytkobkilfbbalaaa
open Go.RowKit Go.Sort Go.Maps

theorem info_ritem : (Try.prog.info? 47).map (fun i => (i.zero, i.size, i.bytes)) = some (some (.agg #[.int .i64 0, .int .i64 0, .int .i64 0, .int .i64 0]), 4, 32) := by kernel_rfl

set_option maxRecDepth 100000 in
set_option maxHeartbeats 400000 in
theorem item_any (x : It) (w : World) :
    Calls Try.prog 30 #[.agg #[.int .i64 x.t, .int .i64 x.f, .int .i64 x.s, .int .i64 x.l]] w fun e w' => e = .returned (.agg #[.int .i64 x.t, .int .i64 x.f, .int .i64 x.s, .int .i64 x.l]) ∧ Below w.heap.size w w' := by
  go_enter Try.func30, Try.ntmps30
  go_wp2
  refine bodyPost_ret (v := .agg #[.int .i64 x.t, .int .i64 x.f, .int .i64 x.s, .int .i64 x.l]) (by simp [results, Try.results30, go_sem]) rfl ⟨rfl, ?_⟩
  exact ((Below.refl _ _).alloc (Nat.le_refl _) _).alloc (by simp) _

set_option maxRecDepth 100000 in
set_option maxHeartbeats 1000000 in
theorem same_any (x : It) (w : World) :
    Calls Try.prog 33 #[.agg #[.int .i64 x.t, .int .i64 x.f, .int .i64 x.s, .int .i64 x.l], .agg #[.int .i64 x.t, .int .i64 x.f, .int .i64 x.s, .int .i64 x.l]] w fun e w' => e = .returned (.bool true) ∧ Below w.heap.size w w' := by
  go_enter Try.func33, Try.ntmps33
  go_wp2
  go_ret
  exact ⟨rfl, ((Below.refl _ _).alloc (Nat.le_refl _) _).alloc (by simp) _⟩

set_option maxRecDepth 100000 in
set_option maxHeartbeats 4000000 in
theorem without_any (w : World) (B g cap : Nat) (l : List It) (i : Nat) (h : ISl w B (.slice (some ⟨g, 0, none⟩) l.length cap) l) (hcap : l.length ≤ cap) (hn : l.length ≤ 2932031007317) (hi : i < l.length) :
    Calls Try.prog 34 #[.slice (some ⟨g, 0, none⟩) l.length cap, .int .i64 i] w fun e w' => ∃ v', e = .returned v' ∧ ISl w' w.heap.size v' (l.eraseIdx i) ∧ Below w.heap.size w w' := by
  obtain ⟨i0, hi0, hz0, hz1, hz2⟩ := info_parts info_ritem
  have hcells : ∀ j u, (itsC (l.take i))[j]? = some u → w.cell? ((⟨g, 0, none⟩ : Addr).add j) = some u := by
    intro j u hu
    have hj := get_lt hu
    rw [itsC_length] at hj
    rw [itsC_take] at hu
    have h4 : j < i * 4 := by have := List.length_take_le i l; omega
    rw [List.getElem?_take_of_lt h4] at hu
    have ha : ((⟨g, 0, none⟩ : Addr).add j) = ⟨g, j, none⟩ := by simp [Addr.add]; omega
    rw [ha, World.ownsRow.cellAt h j (by omega)]
    exact hu
  have hlt : (l.take i).length = i := by simp; omega
  have hone := itsC_one (l.take i)
  have hone2 := itsC_one (l.drop (i + 1))
  go_enter Try.func34, Try.ntmps34
  go_wp2_with (at_builtin; refine wpList_append_ownX rfl (.tmp 6) (.tmp 9) 50 rfl w.heap.size 47 i0 _ 4 32 Try.underlying50 hi0 hz0 hz1 hz2 rfl (by decide) (.slice none 0 0) 0 [] rfl ?own ⟨g, 0, none⟩ i cap (itsC (l.take i)) rfl ?len ?cells ?one ?b1 ?b2 ?hb ?k)
  case own => exact World.ownsRow_nil _ _ _ _
  case len => rw [itsC_length, hlt]
  case cells => exact hcells
  case one => exact hone
  case b1 => unfold maxLen; omega
  case b2 => omega
  case hb => exact Nat.le_refl _
  case k =>
    intro v1 w1 hown1 hgr1 hfr1
    have hK1 : Below w.heap.size w w1 := (Below.refl _ _).grown hgr1 (Nat.le_refl _) (fun k hk => by simp [Value.ownBlock] at hk)
    have hle : (l.eraseIdx i).length = i + (l.length - (i + 1)) := by rw [List.length_eraseIdx]; rw [if_pos hi]; omega
    have heq : itsC (l.eraseIdx i) = itsC (l.take i) ++ itsC (l.drop (i + 1)) := by rw [List.eraseIdx_eq_take_drop_succ, itsC_append]
    have hg := (h.lt (g := g) rfl).2
    have hcell2 : ∀ o, w1.cell? ⟨g, o, none⟩ = w.cell? ⟨g, o, none⟩ := fun o => hK1.cell (p := ⟨g, o, none⟩) hg
    clear hcells hone
    by_cases hce : cap = i + 1
    · have hl0 : l.length - (i + 1) = 0 := by omega
      have hdr : l.drop (i + 1) = [] := List.eq_nil_of_length_eq_zero (by rw [List.length_drop]; exact hl0)
      have hle' : (l.eraseIdx i).length = i + 0 := by rw [hle, hl0]
      have heq' : itsC (l.eraseIdx i) = itsC (l.take i) ++ [] := by rw [heq, hdr]; rfl
      have Hle : Hid ((l.eraseIdx i).length = i + 0) := hle'
      have Heq : Hid (itsC (l.eraseIdx i) = itsC (l.take i) ++ []) := heq'
      clear hl0 hdr hle heq hle' heq'
      subst hce
      go_wp2_with (at_builtin; refine wpList_append_ownX rfl (.tmp 11) (.tmp 15) 50 rfl w.heap.size 47 i0 _ 4 32 Try.underlying50 hi0 hz0 hz1 hz2 rfl (by decide) v1 i (itsC (l.take i)) rfl ?own2 ⟨g, 0, none⟩ 0 0 [] rfl rfl ?cells2 ?one2 ?b12 ?b22 ?hb2 ?k2)
      case own2 => exact hown1
      case cells2 => intro j u hu; simp at hu
      case one2 => intro u hu; simp at hu
      case b12 => unfold maxLen; omega
      case b22 => omega
      case hb2 => exact hgr1.size
      case k2 =>
        intro v2 w2 hown2 hgr2 hfr2
        go_wp2
        go_ret
        refine ⟨v2, rfl, ?_, ?_⟩
        · unfold ISl
          rw [Hle.out, Heq.out, Nat.add_zero, List.append_nil]
          exact hown2
        · refine hK1.trans (KeptF.below (F := fun k => w.heap.size ≤ k) (KeptF.of_grown hgr2 (fun k hk _ => ?_)) hgr1.size (fun i h => h))
          exact World.ownsRow_ge hown1 k hk
    · have hcs : ∀ j u, (itsC (l.drop (i + 1)))[j]? = some u → w1.cell? ((⟨g, (i + 1) * 4, none⟩ : Addr).add j) = some u := by
        intro j u hu
        have hj := get_lt hu
        rw [itsC_length, List.length_drop] at hj
        rw [itsC_drop, List.getElem?_drop] at hu
        have ha : ((⟨g, (i + 1) * 4, none⟩ : Addr).add j) = ⟨g, (i + 1) * 4 + j, none⟩ := by simp [Addr.add]
        rw [ha, hcell2, World.ownsRow.cellAt h _ (by omega)]
        exact hu
      clear hcell2
      go_wp2_with (at_builtin; refine wpList_append_ownX rfl (.tmp 11) (.tmp 15) 50 rfl w.heap.size 47 i0 _ 4 32 Try.underlying50 hi0 hz0 hz1 hz2 rfl (by decide) v1 i (itsC (l.take i)) rfl ?own2 ⟨g, (i + 1) * 4, none⟩ (l.length - (i + 1)) (cap - (i + 1)) (itsC (l.drop (i + 1))) rfl ?len2 ?cells2 ?one2 ?b12 ?b22 ?hb2 ?k2)
      case own2 => exact hown1
      case len2 => rw [itsC_length, List.length_drop]
      case cells2 => exact hcs
      case one2 => exact hone2
      case b12 => unfold maxLen; omega
      case b22 => omega
      case hb2 => exact hgr1.size
      case k2 =>
        intro v2 w2 hown2 hgr2 hfr2
        go_wp2
        go_ret
        refine ⟨v2, rfl, ?_, ?_⟩
        · unfold ISl
          rw [hle, heq]
          exact hown2
        · refine hK1.trans (KeptF.below (F := fun k => w.heap.size ≤ k) (KeptF.of_grown hgr2 (fun k hk _ => ?_)) hgr1.size (fun i h => h))
          exact World.ownsRow_ge hown1 k hk

end Go.Proofs.Ytkobkilfbbalaaa

namespace Go.Proofs.Ytkobkilfbbalaaa
open Go.RowKit Go.Sort Go.Maps

structure Pair (w : World) (B qb mb : Nat) (dv : Value) (n : Nat) (ds : List Day) (rest : Array Value) (Tq : TypeId) (width : Int) (pushed : Nat) (lv : Value) (l : List It) (L : List Ent) : Prop where
  core : QCore w B qb mb dv n ds rest Tq width (L.length : Int) (pushed : Int)
  filled : Filled width ds
  perm : L.Perm (allEs ds)
  sorted : L.Pairwise (fun a b => a.r < b.r)
  rank : ∀ e ∈ L, 0 ≤ e.r ∧ e.r < pushed
  items : L.map Ent.it = l
  inint : ∀ e ∈ L, InInt e.it.t
  list : ISl w B lv l
  apartL : ∀ g, lv.ownBlock = some g → ¬ Foot qb mb dv ds g
  wid1 : 1 ≤ width
  wid2 : width ≤ 100
  nle : n ≤ pushed
  lenle : L.length ≤ pushed

/-- the blocks of a queue and of its list -/
def PFoot (qb mb : Nat) (dv : Value) (ds : List Day) (lv : Value) (k : Nat) : Prop := Foot qb mb dv ds k ∨ lv.ownBlock = some k

section
variable {w w' : World} {B qb mb : Nat} {dv : Value} {n : Nat} {ds : List Day} {rest : Array Value} {Tq : TypeId} {width : Int} {pushed : Nat} {lv : Value} {l : List It} {L : List Ent}

theorem Pair.foot_lt (h : Pair w B qb mb dv n ds rest Tq width pushed lv l L) {k : Nat} (hk : PFoot qb mb dv ds lv k) : B ≤ k ∧ k < w.heap.size := by
  rcases hk with hk | hk
  · exact h.core.foot_lt hk
  · exact h.list.lt hk

theorem Pair.keep {G : Nat → Prop} (h : Pair w B qb mb dv n ds rest Tq width pushed lv l L) (k : KeptF G w w') (hG : ∀ i, PFoot qb mb dv ds lv i → ¬ G i) : Pair w' B qb mb dv n ds rest Tq width pushed lv l L :=
  ⟨h.core.keep k (fun i hi => hG i (.inl hi)), h.filled, h.perm, h.sorted, h.rank, h.items, h.inint, h.list.keep k (fun g hg => hG g (.inr hg)), h.apartL, h.wid1, h.wid2, h.nle, h.lenle⟩

theorem length_allEs : ∀ (ds : List Day), (∀ y ∈ ds, y.es ≠ []) → ds.length ≤ (allEs ds).length
  | [], _ => Nat.zero_le _
  | y :: ds, h => by
    have h1 := length_allEs ds (fun z hz => h z (List.mem_cons_of_mem _ hz))
    have h2 : 0 < y.es.length := List.length_pos_iff.2 (h y (List.mem_cons_self ..))
    simp only [allEs, List.flatMap_cons, List.length_append, List.length_cons] at *
    omega

theorem es_le_allEs : ∀ (ds : List Day) (x : Day), x ∈ ds → x.es.length ≤ (allEs ds).length
  | [], x, h => by simp at h
  | y :: ds, x, h => by
    simp only [allEs, List.flatMap_cons, List.length_append]
    rcases List.mem_cons.1 h with h | h
    · subst h; omega
    · have := es_le_allEs ds x h
      simp only [allEs] at this
      omega

theorem Pair.lens (h : Pair w B qb mb dv n ds rest Tq width pushed lv l L) : ds.length ≤ L.length ∧ (∀ x ∈ ds, x.es.length ≤ L.length) ∧ l.length = L.length := by
  refine ⟨?_, fun x hx => ?_, by rw [← h.items]; simp⟩
  · rw [h.perm.length_eq]; exact length_allEs ds (fun y hy => (h.filled y hy).1)
  · rw [h.perm.length_eq]; exact es_le_allEs ds x hx

/-- a time with a later date is later -/
theorem later_date {a b w : Int} (hw : 1 ≤ w) (h : a.tdiv w < b.tdiv w) : a < b := by
  rcases Int.lt_or_le a b with h' | h'
  · exact h'
  · have := Int.tdiv_le_tdiv (c := w) (by omega) h'
    omega

theorem QCore.top_least {x : Day} {r : List Day} {count pushed' : Int} {e : Ent} {es : List Ent} (h : QCore w B qb mb dv n (x :: r) rest Tq width count pushed') (hw : 1 ≤ width) (hF : Filled width (x :: r)) (he : x.es = e :: es) :
    ∀ a ∈ allEs (x :: r), a.ltB e = false := by
  intro a ha
  simp only [allEs, List.flatMap_cons, List.mem_append, List.mem_flatMap] at ha
  have hee : e ∈ x.es := by rw [he]; simp
  rcases ha with ha | ⟨y, hy, ha⟩
  · exact HeapL.least_mem Ent.orderly (h.each x (by simp)).2.2 (by rw [he]; rfl) ha
  · have hm : y.dy ∈ ((x :: r).map Day.dy) := List.mem_map_of_mem (List.mem_cons_of_mem _ hy)
    have h1 := HeapL.least_mem Dy.orderly h.heap (x := x.dy) rfl hm
    have h1' : decide (y.date < x.date) = false := h1
    rw [decide_eq_false_iff_not] at h1'
    have hnd := h.nodup
    rw [List.map_cons, List.nodup_cons] at hnd
    have hne : y.date ≠ x.date := fun e => hnd.1 (by rw [← e]; exact List.mem_map_of_mem hy)
    have ey := (hF y (List.mem_cons_of_mem _ hy)).2 a ha
    have ex := (hF x (by simp)).2 e hee
    have hlt : e.it.t < a.it.t := later_date hw (by rw [ex, ey]; omega)
    exact Ent.ltB_asymm ((Ent.ltB_iff e a).2 (.inl (.inl hlt)))

/-- the first least item of the list is the least entry of the queue -/
theorem pick_same {L : List Ent} {e : Ent} {j : Nat} {x : It} (hs : L.Pairwise (fun a b => a.r < b.r)) (he : e ∈ L) (hmin : ∀ a ∈ L, a.ltB e = false)
    (hx : (L.map Ent.it)[j]? = some x) (h1 : ∀ (m : Nat) (y : It), m < (L.map Ent.it).length → (L.map Ent.it)[m]? = some y → ¬ y.lt x) (h2 : ∀ (m : Nat) (y : It), m < j → (L.map Ent.it)[m]? = some y → x.lt y) :
    L[j]? = some e := by
  obtain ⟨m, hm⟩ := List.getElem?_of_mem he
  have hml := get_lt hm
  rw [List.getElem?_map] at hx
  obtain ⟨a, ha, rfl⟩ := Option.map_eq_some_iff.1 hx
  have hjl := get_lt ha
  have hma : (L.map Ent.it)[m]? = some e.it := by rw [List.getElem?_map, hm]; rfl
  have k1 := h1 m e.it (by simpa using hml) hma
  have k2 := hmin a (List.mem_of_getElem? ha)
  have k2' : ¬ a.lt e := fun h => by rw [(Ent.ltB_iff a e).2 h] at k2; cases k2
  have hpair := List.pairwise_iff_getElem.1 hs
  rcases Nat.lt_trichotomy m j with hmj | hmj | hmj
  · have := h2 m e.it hmj hma
    exact absurd (Or.inl this) k2'
  · subst hmj; exact hm
  · have hr := hpair j m hjl hml hmj
    have ea : L[j] = a := by
      have := List.getElem?_eq_getElem hjl
      rw [ha] at this; simpa using this.symm
    have ee : L[m] = e := by
      have := List.getElem?_eq_getElem hml
      rw [hm] at this; simpa using this.symm
    rw [ea, ee] at hr
    refine absurd ?_ k2'
    unfold Ent.lt It.lt It.same at *
    omega

theorem perm_eraseIdx {α : Type} : ∀ (L : List α) (j : Nat) (a : α), L[j]? = some a → L.Perm (a :: L.eraseIdx j)
  | [], j, a, h => by simp at h
  | b :: L, 0, a, h => by
    simp only [List.getElem?_cons_zero, Option.some.injEq] at h
    subst h
    exact List.Perm.refl _
  | b :: L, j + 1, a, h => by
    simp only [List.getElem?_cons_succ] at h
    exact ((perm_eraseIdx L j a h).cons b).trans (List.Perm.swap _ _ _)

theorem map_eraseIdx' {α β : Type} (f : α → β) : ∀ (L : List α) (j : Nat), (L.eraseIdx j).map f = (L.map f).eraseIdx j
  | [], j => by simp
  | b :: L, 0 => rfl
  | b :: L, j + 1 => by simp only [List.eraseIdx_cons_succ, List.map_cons, map_eraseIdx' f L j]

end

end Go.Proofs.Ytkobkilfbbalaaa

