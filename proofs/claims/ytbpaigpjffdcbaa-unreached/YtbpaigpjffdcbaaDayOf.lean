/-
  The walk of Queue.dayOf.
-/
import Derived.Test.YtbpaigpjffdcbaaQMem
namespace Go.Proofs.Ytbpaigpjffdcbaa
open Go.RowKit Go.Sort Go.Maps

def InInt (t : Int) : Prop := -9223372036854775808 ≤ t ∧ t ≤ 9223372036854775807

theorem tdiv_range {t w : Int} (ht : InInt t) (hw : 1 ≤ w) : InInt (t.tdiv w) := by
  unfold InInt at *
  have h1 : (t.tdiv w).natAbs ≤ t.natAbs := by
    rw [Int.natAbs_tdiv]
    exact Nat.div_le_self _ _
  rcases Int.le_total 0 t with h | h
  · have := Int.tdiv_nonneg h (by omega : 0 ≤ w)
    omega
  · have : t.tdiv w ≤ 0 := by
      have := Int.tdiv_nonneg (a := -t) (b := w) (by omega) (by omega)
      rw [Int.neg_tdiv] at this
      omega
    omega

theorem wf_i64 {t : Int} (h : InInt t) : (Lit.int .i64 t).wf = true := by
  unfold InInt at h
  exact WalkArith.wf_i64 h

set_option maxRecDepth 100000 in
set_option maxHeartbeats 4000000 in
theorem dayOf_found (w : World) (B qb mb : Nat) (dv : Value) (n : Nat) (ds : List Day) (rest : Array Value) (Tq : TypeId) (width count pushed t : Int) (x : Day)
    (h : QCore w B qb mb dv n ds rest Tq width count pushed) (hw1 : 1 ≤ width) (hw2 : width ≤ 100) (ht : InInt t) (hx : x ∈ ds) (hd : x.date = t.tdiv width) :
    Calls Try.prog 68 #[.pointer (some ⟨qb, 0, none⟩), .int .i64 t] w fun e w' => e = .returned (.pointer (some ⟨x.kb, 0, none⟩)) ∧ w' = w := by
  obtain ⟨D, hown, hM⟩ := h.map
  obtain ⟨hhas, hat⟩ := hM.at_ x hx
  have hdr := tdiv_range ht hw1
  rw [hd] at hhas hat
  obtain ⟨f0, _, _, _, f4⟩ := five_get (.int .i64 width) (.int .i64 count) (.int .i64 pushed) dv (.map (some mb)) rest
  have c0 : w.cell? ⟨qb, 0, none⟩ = some (.int .i64 width) := (h.blk.cell 0).trans f0
  have c4 : w.cell? ⟨qb, 4, none⟩ = some (.map (some mb)) := (h.blk.cell 4).trans f4
  have ht1 := ht.1
  have ht2 := ht.2
  have hw0 : (width == 0) = false := beq_eq_false_iff_ne.2 (by omega)
  have hkey := keyOf_int_mk (P := Try.prog) Try.underlying3 (wf_i64 hdr)
  obtain ⟨v, ps, hrun, hv⟩ := hown.look_ok key_law Try.underlying111 (zero_dayp w) (zd := .nil) (zp := []) rfl hkey
  rw [hat] at hv
  rw [hhas, dayR_inv hv] at hrun
  clear h hM ht hd hv hat hhas hown hdr hkey f0 f4
  go_enter Try.func68, Try.ntmps68
  go_wp2
  go_ret
  exact ⟨rfl, rfl⟩

theorem keyLit_ne {a b : Int} (h : a ≠ b) : (Lit.int .i64 a) ≠ (Lit.int .i64 b) := by intro e; cases e; exact h rfl

theorem isKey_int (a : Int) : WideAt.IsKeyLit (.int .i64 a) := by trivial

/-- the days of a queue to which a new, empty day has come -/
theorem QCore.addDay {w w2 w3 : World} {B qb mb : Nat} {dv dv' : Value} {n : Nat} {ds : List Day} {rest : Array Value} {Tq : TypeId} {width count pushed t : Int} {D : DataW Nat} {d' : List Dy}
    (h : QCore w B qb mb dv n ds rest Tq width count pushed) (hBw : B ≤ w.heap.size) (hnew : ∀ y ∈ ds, y.date ≠ t) (hM : MapIs D ds)
    (hm2 : w2.ownsMap Try.prog 3 dayR mb (n + 1) (D.put (.int .i64 t) (.held w.heap.size))) (hD : IsMap D)
    (k2 : KeptF (fun i => i = mb) w w2) (hs2 : w.heap.size < w2.heap.size) (hx2 : Blk w2 w.heap.size #[.int .i64 t, .slice none 0 0] 155)
    (hb3 : Blk w3 qb (#[.int .i64 width, .int .i64 count, .int .i64 pushed, dv', .map (some mb)] ++ rest) Tq) (hd3 : DSl w3 B dv' d') (hP : d'.Perm (ds.map Day.dy ++ [⟨w.heap.size, t⟩])) (hH : HeapL Dy.ltB d')
    (k3 : KeptF (fun i => i = qb ∨ dv.ownBlock = some i) w2 w3) (hg : ∃ g, dv'.ownBlock = some g ∧ (dv.ownBlock = some g ∨ w2.heap.size ≤ g)) :
    ∃ ds', QCore w3 B qb mb dv' (n + 1) ds' rest Tq width count pushed ∧ ds'.Perm (ds ++ [⟨w.heap.size, t, .slice none 0 0, []⟩]) := by
  have A := h.apart
  obtain ⟨g, hg1, hg2⟩ := hg
  have hP' : d'.Perm ((ds ++ [(⟨w.heap.size, t, .slice none 0 0, []⟩ : Day)]).map Day.dy) := by simpa [Day.dy] using hP
  obtain ⟨ds', e1, p1⟩ := perm_map_inv Day.dy hP' _ rfl
  have hmem : ∀ {y : Day}, y ∈ ds' → y ∈ ds ∨ y = ⟨w.heap.size, t, .slice none 0 0, []⟩ := by
    intro y hy
    have := p1.mem_iff.1 hy
    simpa using this
  have hlt : ∀ {k}, Foot qb mb dv ds k → k < w.heap.size := fun hk => (h.foot_lt hk).2
  have hqb : qb < w.heap.size := hlt (.inl rfl)
  have hmb : mb < w.heap.size := hlt (.inr (.inl rfl))
  have hgne : ∀ k, k < w2.heap.size → dv.ownBlock ≠ some k → g ≠ k := by
    intro k hk hne e
    subst e
    rcases hg2 with h1 | h1
    · exact hne h1
    · omega
  have hdvne : ∀ k, k < w2.heap.size → dv.ownBlock ≠ some k → dv'.ownBlock ≠ some k := by
    intro k hk hne e
    rw [hg1] at e
    exact hgne k hk hne (by simpa using e)
  have hdvx : dv.ownBlock ≠ some w.heap.size := fun e => by have := hlt (.inr (.inr (.inl e))); omega
  refine ⟨ds', ⟨hb3, ⟨_, ownsMap_keep hm2 k3 ?_, ⟨fun y hy => ?_, fun t' ht' => ?_⟩⟩, by rw [e1]; exact hd3, by rw [e1]; exact hH, fun y hy => ?_, ?_, h.lowq, h.lowm, fun y hy => ?_, ?_⟩, p1⟩
  · rintro (e | e)
    · exact A.qm e.symm
    · exact A.dm e
  · rcases hmem hy with hy | rfl
    · have hne := keyLit_ne (hnew y hy)
      rw [has_put_other hne]
      refine ⟨(hM.at_ y hy).1, fun z => ?_⟩
      rw [atKey_put_other hne]
      exact (hM.at_ y hy).2 z
    · exact ⟨has_put_same hD (isKey_int _) _, fun z => atKey_put_same hD (isKey_int _) _ z⟩
  · have hx := ht' ⟨w.heap.size, t, .slice none 0 0, []⟩ (p1.mem_iff.2 (by simp))
    rw [has_put_other (keyLit_ne (fun e => hx e.symm))]
    exact hM.not t' (fun y hy => ht' y (p1.mem_iff.2 (by simp [hy])))
  · rcases hmem hy with hy | rfl
    · obtain ⟨h1, h2, h3⟩ := h.each y hy
      refine ⟨(h1.keep k2 (A.kq y hy).2.1).keep k3 ?_, (h2.keep k2 (fun g' hg' e => (A.iq y hy).2.1 (by rw [hg', e]))).keep k3 (fun g' hg' => ?_), h3⟩
      · rintro (e | e)
        · exact (A.kq y hy).1 e
        · exact (A.kq y hy).2.2 e
      · rintro (e | e)
        · exact (A.iq y hy).1 (by rw [hg', e])
        · exact (A.iq y hy).2.2 g' hg' e
    · refine ⟨hx2.keep k3 ?_, ESl.nil _ _, fun k x y _ hx => by simp at hx⟩
      rintro (e | e)
      · have e' : w.heap.size = qb := e
        omega
      · exact hdvx e
  · have hp : (ds'.map Day.date).Perm ((ds ++ [(⟨w.heap.size, t, .slice none 0 0, []⟩ : Day)]).map Day.date) := p1.map _
    rw [hp.nodup_iff]
    simp only [List.map_append, List.map_cons, List.map_nil]
    rw [List.nodup_append]
    refine ⟨h.nodup, by simp, fun a ha b hb e => ?_⟩
    obtain ⟨y, hy, rfl⟩ := List.mem_map.1 ha
    simp only [List.mem_cons, List.not_mem_nil, or_false] at hb
    exact hnew y hy (e.trans hb)
  · rcases hmem hy with hy | rfl
    · exact h.lowk y hy
    · exact hBw
  · refine ⟨A.qm, hdvne qb (by omega) A.dq, hdvne mb (by omega) A.dm, fun y hy => ?_, fun y hy => ?_, fun y hy z hz => ?_, fun y hy z hz hne => ?_⟩
    · rcases hmem hy with hy | rfl
      · have := hlt (.inr (.inr (.inr ⟨y, hy, .inl rfl⟩)))
        exact ⟨(A.kq y hy).1, (A.kq y hy).2.1, hdvne y.kb (by omega) (A.kq y hy).2.2⟩
      · exact ⟨by simp only; omega, by simp only; omega, hdvne _ hs2 hdvx⟩
    · rcases hmem hy with hy | rfl
      · refine ⟨(A.iq y hy).1, (A.iq y hy).2.1, fun g' hg' => hdvne g' ?_ ((A.iq y hy).2.2 g' hg')⟩
        have := hlt (.inr (.inr (.inr ⟨y, hy, .inr hg'⟩)))
        omega
      · exact ⟨by simp [Value.ownBlock], by simp [Value.ownBlock], fun g' hg' => by simp [Value.ownBlock] at hg'⟩
    · rcases hmem hy with hy | rfl
      · rcases hmem hz with hz | rfl
        · exact A.ik y hy z hz
        · intro e
          have : w.heap.size < w.heap.size := hlt (.inr (.inr (.inr ⟨y, hy, .inr e⟩)))
          omega
      · simp [Value.ownBlock]
    · rcases hmem hy with hy | rfl
      · rcases hmem hz with hz | rfl
        · exact A.xy y hy z hz hne
        · have := hlt (.inr (.inr (.inr ⟨y, hy, .inl rfl⟩)))
          exact ⟨by simp only; omega, fun g' _ => by simp [Value.ownBlock]⟩
      · rcases hmem hz with hz | rfl
        · have := hlt (.inr (.inr (.inr ⟨z, hz, .inl rfl⟩)))
          exact ⟨by simp only; omega, fun g' hg' => by simp [Value.ownBlock] at hg'⟩
        · exact absurd rfl hne

set_option maxRecDepth 100000 in
set_option maxHeartbeats 4000000 in
theorem dayOf_new (w : World) (B qb mb : Nat) (dv : Value) (n : Nat) (ds : List Day) (rest : Array Value) (Tq : TypeId) (width count pushed t : Int)
    (h : QCore w B qb mb dv n ds rest Tq width count pushed) (hBw : B ≤ w.heap.size) (hw1 : 1 ≤ width) (hw2 : width ≤ 100) (ht : InInt t) (hnew : ∀ y ∈ ds, y.date ≠ t.tdiv width) (hn : n ≤ 2932031007317) (hl : ds.length + 1 ≤ 2932031007317) :
    Calls Try.prog 68 #[.pointer (some ⟨qb, 0, none⟩), .int .i64 t] w fun e w' => e = .returned (.pointer (some ⟨w.heap.size, 0, none⟩)) ∧
      ∃ dv' ds', QCore w' B qb mb dv' (n + 1) ds' rest Tq width count pushed ∧ ds'.Perm (ds ++ [⟨w.heap.size, t.tdiv width, .slice none 0 0, []⟩]) ∧ KeptF (fun i => i = qb ∨ i = mb ∨ dv.ownBlock = some i) w w' ∧ (∃ g, dv'.ownBlock = some g ∧ (dv.ownBlock = some g ∨ w.heap.size ≤ g)) := by
  obtain ⟨D, hown, hM⟩ := h.map
  have hhas := hM.not _ hnew
  have hdr := tdiv_range ht hw1
  have A := h.apart
  obtain ⟨f0, f1, f2, f3, f4⟩ := five_get (.int .i64 width) (.int .i64 count) (.int .i64 pushed) dv (.map (some mb)) rest
  have c0 : w.cell? ⟨qb, 0, none⟩ = some (.int .i64 width) := (h.blk.cell 0).trans f0
  have c4 : w.cell? ⟨qb, 4, none⟩ = some (.map (some mb)) := (h.blk.cell 4).trans f4
  have hqb := h.blk.lt
  have ht1 := ht.1
  have ht2 := ht.2
  have hw0 : (width == 0) = false := beq_eq_false_iff_ne.2 (by omega)
  have hkey := keyOf_int_mk (P := Try.prog) Try.underlying3 (wf_i64 hdr)
  obtain ⟨v, ps, hrun, hv⟩ := hown.look_ok key_law Try.underlying111 (zero_dayp w) (zd := .nil) (zp := []) rfl hkey
  rw [atKey_of_not_has hhas] at hv
  have hv0 : v = .pointer none := by
    unfold dayR at hv
    split at hv
    · rfl
    · split at hv <;> simp at hv
    · cases hv
  rw [hhas, hv0] at hrun
  obtain ⟨w2, hrun2, hown2, hturn⟩ := (hown.alloc (.cells #[.int .i64 (t.tdiv width), .slice none 0 0] 155)).store key_law Try.underlying111 (by unfold maxLen; omega) hkey (dayR_mk w.heap.size)
  have hgr := hturn.grown
  have k2 : KeptF (fun i => i = mb) w w2 := ((KeptF.refl _ w).alloc _).trans' (KeptF.of_grown (F := fun i => i = mb) hgr (fun k e _ => by cases e; rfl)) (fun _ _ e => e)
  have hs2 : w.heap.size < w2.heap.size := by have := hgr.size; simp at this; omega
  have hx2 : Blk w2 w.heap.size #[.int .i64 (t.tdiv width), .slice none 0 0] 155 := by
    have hb : Blk (w.alloc (.cells #[.int .i64 (t.tdiv width), .slice none 0 0] 155)) w.heap.size #[.int .i64 (t.tdiv width), .slice none 0 0] 155 := heap_alloc_new w _
    refine hb.keep (KeptF.of_grown (F := fun i => i = mb) hgr (fun k e _ => by cases e; rfl)) ?_
    have := (h.foot_lt (k := mb) (.inr (.inl rfl))).2
    omega
  have hq2 := h.blk.keep k2 A.qm
  have c34 : w2.cell? ⟨qb, 4, none⟩ = some (.map (some mb)) := (hq2.cell 4).trans f4
  have hpush := pushD_any qb 3 B Tq _ dv (ds.map Day.dy) ⟨w.heap.size, t.tdiv width⟩ w2 hq2 f3 (h.days.keep k2 (fun g hg e => A.dm (by rw [hg, e]))) (by omega) A.dq (by simpa using hl) h.heap
    (by
      intro e he
      rcases List.mem_append.1 he with he | he
      · obtain ⟨y, hy, rfl⟩ := List.mem_map.1 he
        show w2.cell? ⟨y.kb, 0, none⟩ = some (.int .i64 y.date)
        rw [((h.each y hy).1.keep k2 (A.kq y hy).2.1).cell]
        rfl
      · simp only [List.mem_cons, List.not_mem_nil, or_false] at he
        subst he
        rw [hx2.cell]
        rfl)
    (by
      intro e he
      rcases List.mem_append.1 he with he | he
      · obtain ⟨y, hy, rfl⟩ := List.mem_map.1 he
        exact ⟨(A.kq y hy).1, (A.kq y hy).2.2⟩
      · simp only [List.mem_cons, List.not_mem_nil, or_false] at he
        subst he
        refine ⟨by simp only; omega, fun e => ?_⟩
        have := (h.foot_lt (.inr (.inr (.inl e)))).2
        simp only at this
        omega)
  have Hd : Hid (IsMap D) := hown.isMap
  clear hv hkey f0 f1 f2 f3 f4 hown hturn
  go_enter Try.func68, Try.ntmps68
  go_wp2_with fail
  refine hpush.mono ?_
  rintro e w3 ⟨rfl, dv', d', hb3, hd3, hP, hH, k3, hg⟩
  rw [(five_set _ _ _ _ _ dv' rest).2.2] at hb3
  obtain ⟨ds', hQ, hPd⟩ := h.addDay hBw hnew hM hown2 Hd.out k2 hs2 hx2 hb3 hd3 hP hH k3 hg
  clear hpush hrun hrun2
  go_wp2
  go_ret
  refine ⟨rfl, dv', ds', hQ, hPd, ?_, ?_⟩
  · refine (k2.weaken (fun _ _ e => .inr (.inl e))).trans' k3 (fun i _ e => ?_)
    rcases e with e | e
    · exact .inl e
    · exact .inr (.inr e)
  · obtain ⟨g, h1, h2⟩ := hg
    refine ⟨g, h1, h2.imp id (fun h => ?_)⟩
    omega

end Go.Proofs.Ytbpaigpjffdcbaa
