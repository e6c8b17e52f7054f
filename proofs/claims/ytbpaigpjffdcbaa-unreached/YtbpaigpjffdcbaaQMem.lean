/-
  A queue in memory: its block, its map of days, its heap of days, each day's heap of entries; all apart.
-/
import Derived.Test.YtbpaigpjffdcbaaPop
import Derived.Maps.OwnSet
namespace Go.Proofs.Ytbpaigpjffdcbaa
open Go.RowKit Go.Sort Go.Maps

structure Day where
  kb : Nat
  date : Int
  iv : Value
  es : List Ent

def Day.dy (x : Day) : Dy := ⟨x.kb, x.date⟩

/-- how a pointer to a day reads: by its block's number -/
def dayR : Value → Option (DataW Nat × List MemPlace)
  | .pointer none => some (.nil, [])
  | .pointer (some a) => if a.off = 0 ∧ a.spot = none then some (.held a.block, []) else none
  | _ => none

theorem dayR_mk (b : Nat) : dayR (.pointer (some ⟨b, 0, none⟩)) = some (.held b, []) := by simp [dayR]
theorem dayR_inv {v : Value} {b : Nat} {ps : List MemPlace} (h : dayR v = some (.held b, ps)) : v = .pointer (some ⟨b, 0, none⟩) := by
  unfold dayR at h
  split at h
  · simp at h
  · rename_i a
    split at h
    · rename_i hc
      obtain ⟨ab, ao, asp⟩ := a
      simp only at hc
      obtain ⟨rfl, rfl⟩ := hc
      simp at h
      rw [h.1]
    · cases h
  · cases h

theorem key_law : Keyed Try.prog 3 := int_keyed Try.underlying3

theorem five_get (a b c d e : Value) (r : Array Value) : (#[a, b, c, d, e] ++ r)[0]? = some a ∧ (#[a, b, c, d, e] ++ r)[1]? = some b ∧ (#[a, b, c, d, e] ++ r)[2]? = some c ∧ (#[a, b, c, d, e] ++ r)[3]? = some d ∧ (#[a, b, c, d, e] ++ r)[4]? = some e := by
  refine ⟨?_, ?_, ?_, ?_, ?_⟩ <;> (rw [Array.getElem?_append_left (by simp)]; rfl)

theorem five_set (a b c d e v : Value) (r : Array Value) : (#[a, b, c, d, e] ++ r).setIfInBounds 1 v = #[a, v, c, d, e] ++ r ∧ (#[a, b, c, d, e] ++ r).setIfInBounds 2 v = #[a, b, v, d, e] ++ r ∧ (#[a, b, c, d, e] ++ r).setIfInBounds 3 v = #[a, b, c, v, e] ++ r := by
  refine ⟨?_, ?_, ?_⟩ <;> (rw [Array.setIfInBounds_append_left (by simp)]; rfl)

/-- the map's datum and the days -/
structure MapIs (D : DataW Nat) (ds : List Day) : Prop where
  at_ : ∀ x ∈ ds, Maps.has D (.int .i64 x.date) = true ∧ ∀ z, D.atKey (.int .i64 x.date) z = .held x.kb
  not : ∀ t, (∀ x ∈ ds, x.date ≠ t) → Maps.has D (.int .i64 t) = false

structure Apart (qb mb : Nat) (dv : Value) (ds : List Day) : Prop where
  qm : qb ≠ mb
  dq : dv.ownBlock ≠ some qb
  dm : dv.ownBlock ≠ some mb
  kq : ∀ x ∈ ds, x.kb ≠ qb ∧ x.kb ≠ mb ∧ dv.ownBlock ≠ some x.kb
  iq : ∀ x ∈ ds, x.iv.ownBlock ≠ some qb ∧ x.iv.ownBlock ≠ some mb ∧ ∀ g, x.iv.ownBlock = some g → dv.ownBlock ≠ some g
  ik : ∀ x ∈ ds, ∀ y ∈ ds, x.iv.ownBlock ≠ some y.kb
  xy : ∀ x ∈ ds, ∀ y ∈ ds, x.date ≠ y.date → x.kb ≠ y.kb ∧ ∀ g, x.iv.ownBlock = some g → y.iv.ownBlock ≠ some g

def Foot (qb mb : Nat) (dv : Value) (ds : List Day) (k : Nat) : Prop := k = qb ∨ k = mb ∨ dv.ownBlock = some k ∨ ∃ x ∈ ds, k = x.kb ∨ x.iv.ownBlock = some k

structure QCore (w : World) (B qb mb : Nat) (dv : Value) (n : Nat) (ds : List Day) (rest : Array Value) (Tq : TypeId) (width count pushed : Int) : Prop where
  blk : Blk w qb (#[.int .i64 width, .int .i64 count, .int .i64 pushed, dv, .map (some mb)] ++ rest) Tq
  map : ∃ D : DataW Nat, w.ownsMap Try.prog 3 dayR mb n D ∧ MapIs D ds
  days : DSl w B dv (ds.map Day.dy)
  heap : HeapL Dy.ltB (ds.map Day.dy)
  each : ∀ x ∈ ds, Blk w x.kb #[.int .i64 x.date, x.iv] 155 ∧ ESl w B x.iv x.es ∧ HeapL Ent.ltB x.es
  nodup : (ds.map Day.date).Nodup
  lowq : B ≤ qb
  lowm : B ≤ mb
  lowk : ∀ x ∈ ds, B ≤ x.kb
  apart : Apart qb mb dv ds

theorem ownsMap_keep {F : Nat → Prop} {w w' : World} {b n : Nat} {D : DataW Nat} (h : w.ownsMap Try.prog 3 dayR b n D) (k : KeptF F w w') (hF : ¬ F b) : w'.ownsMap Try.prog 3 dayR b n D := by
  obtain ⟨es, clock, hb, r⟩ := h
  refine ⟨es, clock, ?_, r⟩
  have : b < w.heap.size := by
    rcases Nat.lt_or_ge b w.heap.size with h' | h'
    · exact h'
    · rw [Array.getElem?_eq_none h'] at hb; cases hb
  rw [k.block b this hF]; exact hb

theorem ESl.keep {F : Nat → Prop} {w w' : World} {B : Nat} {v : Value} {d : List Ent} (h : ESl w B v d) (k : KeptF F w w') (hF : ∀ g, v.ownBlock = some g → ¬ F g) : ESl w' B v d := ownsRow_keep h k hF
theorem DSl.keep {F : Nat → Prop} {w w' : World} {B : Nat} {v : Value} {d : List Dy} (h : DSl w B v d) (k : KeptF F w w') (hF : ∀ g, v.ownBlock = some g → ¬ F g) : DSl w' B v d := ownsRow_keep h k hF
theorem ESl.lt {w : World} {B : Nat} {v : Value} {d : List Ent} (h : ESl w B v d) {g : Nat} (hg : v.ownBlock = some g) : B ≤ g ∧ g < w.heap.size := World.ownsRow.lt h g hg
theorem DSl.lt {w : World} {B : Nat} {v : Value} {d : List Dy} (h : DSl w B v d) {g : Nat} (hg : v.ownBlock = some g) : B ≤ g ∧ g < w.heap.size := World.ownsRow.lt h g hg

section
variable {w w' : World} {B qb mb : Nat} {dv : Value} {n : Nat} {ds : List Day} {rest : Array Value} {Tq : TypeId} {width count pushed : Int}

theorem QCore.foot_lt (h : QCore w B qb mb dv n ds rest Tq width count pushed) {k : Nat} (hk : Foot qb mb dv ds k) : B ≤ k ∧ k < w.heap.size := by
  rcases hk with hk | hk | hk | ⟨x, hx, hk | hk⟩
  · subst hk; exact ⟨h.lowq, h.blk.lt⟩
  · subst hk
    obtain ⟨D, h1, _⟩ := h.map
    exact ⟨h.lowm, h1.lt⟩
  · exact h.days.lt hk
  · subst hk; exact ⟨h.lowk x hx, (h.each x hx).1.lt⟩
  · exact (h.each x hx).2.1.lt hk

theorem QCore.keep {G : Nat → Prop} (h : QCore w B qb mb dv n ds rest Tq width count pushed) (k : KeptF G w w') (hG : ∀ i, Foot qb mb dv ds i → ¬ G i) : QCore w' B qb mb dv n ds rest Tq width count pushed := by
  refine ⟨h.blk.keep k (hG _ (.inl rfl)), ?_, h.days.keep k (fun g hg => hG g (.inr (.inr (.inl hg)))), h.heap, fun x hx => ?_, h.nodup, h.lowq, h.lowm, h.lowk, h.apart⟩
  · obtain ⟨D, h1, h2⟩ := h.map
    exact ⟨D, ownsMap_keep h1 k (hG _ (.inr (.inl rfl))), h2⟩
  · obtain ⟨h1, h2, h3⟩ := h.each x hx
    exact ⟨h1.keep k (hG _ (.inr (.inr (.inr ⟨x, hx, .inl rfl⟩)))), h2.keep k (fun g hg => hG g (.inr (.inr (.inr ⟨x, hx, .inr hg⟩)))), h3⟩

/-- one of the queue's three numbers is stored -/
theorem QCore.setNum (h : QCore w B qb mb dv n ds rest Tq width count pushed) {c' p' : Int} {w' : World} (hb : Blk w' qb (#[.int .i64 width, .int .i64 c', .int .i64 p', dv, .map (some mb)] ++ rest) Tq) (k : KeptF (fun i => i = qb) w w') :
    QCore w' B qb mb dv n ds rest Tq width c' p' := by
  have A := h.apart
  refine ⟨hb, ?_, h.days.keep k (fun g hg e => A.dq (by rw [hg, e])), h.heap, fun x hx => ?_, h.nodup, h.lowq, h.lowm, h.lowk, A⟩
  · obtain ⟨D, h1, h2⟩ := h.map
    exact ⟨D, ownsMap_keep h1 k (fun e => A.qm e.symm), h2⟩
  · obtain ⟨h1, h2, h3⟩ := h.each x hx
    exact ⟨h1.keep k (A.kq x hx).1, h2.keep k (fun g hg e => (A.iq x hx).1 (by rw [hg, e])), h3⟩

theorem nodup_date {l1 l2 : List Day} {x : Day} (h : ((l1 ++ x :: l2).map Day.date).Nodup) : ∀ y, y ∈ l1 ++ l2 → y.date ≠ x.date := by
  intro y hy e
  rw [List.map_append, List.map_cons] at h
  have h2 := (List.nodup_append.1 h)
  rcases List.mem_append.1 hy with hy | hy
  · exact h2.2.2 y.date (List.mem_map_of_mem hy) x.date (by simp) e
  · have := (List.nodup_cons.1 h2.2.1).1
    exact this (by rw [← e]; exact List.mem_map_of_mem hy)

/-- a day's items turn: its own block and its row alone -/
theorem QCore.replace {l1 l2 : List Day} {x : Day} {iv' : Value} {es' : List Ent} (h : QCore w B qb mb dv n (l1 ++ x :: l2) rest Tq width count pushed)
    (k : KeptF (fun i => i = x.kb ∨ x.iv.ownBlock = some i) w w') (hb : Blk w' x.kb #[.int .i64 x.date, iv'] 155) (hE : ESl w' B iv' es') (hH : HeapL Ent.ltB es')
    (hg : ∀ g, iv'.ownBlock = some g → x.iv.ownBlock = some g ∨ w.heap.size ≤ g) :
    QCore w' B qb mb dv n (l1 ++ ⟨x.kb, x.date, iv', es'⟩ :: l2) rest Tq width count pushed := by
  have A := h.apart
  have hxm : x ∈ l1 ++ x :: l2 := by simp
  have hmem : ∀ {y}, y ∈ l1 ++ l2 → y ∈ l1 ++ x :: l2 := by
    intro y hy
    rcases List.mem_append.1 hy with hy | hy
    · exact List.mem_append_left _ hy
    · exact List.mem_append_right _ (List.mem_cons_of_mem _ hy)
  have hmem' : ∀ {y : Day}, y ∈ l1 ++ (⟨x.kb, x.date, iv', es'⟩ : Day) :: l2 → y = ⟨x.kb, x.date, iv', es'⟩ ∨ y ∈ l1 ++ l2 := by
    intro y hy
    rcases List.mem_append.1 hy with hy | hy
    · exact .inr (List.mem_append_left _ hy)
    · rcases List.mem_cons.1 hy with hy | hy
      · exact .inl hy
      · exact .inr (List.mem_append_right _ hy)
  have hnd := nodup_date h.nodup
  have hlt : ∀ {k}, Foot qb mb dv (l1 ++ x :: l2) k → k < w.heap.size := fun hk => (h.foot_lt hk).2
  -- where the new row may lie
  have hfr : ∀ g, iv'.ownBlock = some g → ∀ k, Foot qb mb dv (l1 ++ x :: l2) k → x.iv.ownBlock ≠ some k → g ≠ k := by
    intro g hg' k hk hx e
    subst e
    rcases hg g hg' with h1 | h1
    · exact hx h1
    · have := hlt hk; omega
  have hother : ∀ y, y ∈ l1 ++ l2 → (∀ i, (i = y.kb ∨ y.iv.ownBlock = some i) → ¬ (i = x.kb ∨ x.iv.ownBlock = some i)) := by
    intro y hy i hi hi'
    have hyx := hnd y hy
    have h1 := A.xy y (hmem hy) x hxm hyx
    have h2 := A.xy x hxm y (hmem hy) (fun e => hyx e.symm)
    rcases hi with hi | hi <;> rcases hi' with hi' | hi'
    · exact h1.1 (hi.symm.trans hi')
    · exact A.ik x hxm y (hmem hy) (by rw [hi', hi])
    · exact A.ik y (hmem hy) x hxm (by rw [hi, hi'])
    · exact h1.2 i hi hi'
  refine ⟨h.blk.keep k ?_, ?_, ?_, ?_, ?_, ?_, h.lowq, h.lowm, ?_, ?_⟩
  · rintro (e | e)
    · exact (A.kq x hxm).1 e.symm
    · exact (A.iq x hxm).1 e
  · obtain ⟨D, h1, h2⟩ := h.map
    refine ⟨D, ownsMap_keep h1 k ?_, ⟨fun y hy => ?_, fun t ht => h2.not t (fun y hy => ?_)⟩⟩
    · rintro (e | e)
      · exact (A.kq x hxm).2.1 e.symm
      · exact (A.iq x hxm).2.1 e
    · rcases hmem' hy with e | hy
      · subst e; exact h2.at_ x hxm
      · exact h2.at_ y (hmem hy)
    · rcases List.mem_append.1 hy with hy | hy
      · exact ht y (List.mem_append_left _ hy)
      · rcases List.mem_cons.1 hy with hy | hy
        · subst hy; exact ht ⟨y.kb, y.date, iv', es'⟩ (by simp)
        · exact ht y (List.mem_append_right _ (List.mem_cons_of_mem _ hy))
  · have e : (l1 ++ (⟨x.kb, x.date, iv', es'⟩ : Day) :: l2).map Day.dy = (l1 ++ x :: l2).map Day.dy := by simp [Day.dy]
    rw [e]
    refine h.days.keep k (fun g hg' => ?_)
    rintro (e | e)
    · exact (A.kq x hxm).2.2 (by rw [hg', e])
    · exact (A.iq x hxm).2.2 g e hg'
  · have e : (l1 ++ (⟨x.kb, x.date, iv', es'⟩ : Day) :: l2).map Day.dy = (l1 ++ x :: l2).map Day.dy := by simp [Day.dy]
    rw [e]
    exact h.heap
  · intro y hy
    rcases hmem' hy with e | hy
    · subst e; exact ⟨hb, hE, hH⟩
    · obtain ⟨h1, h2, h3⟩ := h.each y (hmem hy)
      exact ⟨h1.keep k (hother y hy _ (.inl rfl)), h2.keep k (fun g hg' => hother y hy g (.inr hg')), h3⟩
  · have e : (l1 ++ (⟨x.kb, x.date, iv', es'⟩ : Day) :: l2).map Day.date = (l1 ++ x :: l2).map Day.date := by simp
    rw [e]
    exact h.nodup
  · intro y hy
    rcases hmem' hy with e | hy
    · subst e; exact h.lowk x hxm
    · exact h.lowk y (hmem hy)
  · refine ⟨A.qm, A.dq, A.dm, fun y hy => ?_, fun y hy => ?_, fun y hy z hz => ?_, fun y hy z hz hne => ?_⟩
    · rcases hmem' hy with e | hy
      · subst e; exact A.kq x hxm
      · exact A.kq y (hmem hy)
    · rcases hmem' hy with e | hy
      · subst e
        refine ⟨fun e => ?_, fun e => ?_, fun g hg' e => ?_⟩
        · exact hfr qb e qb (.inl rfl) (A.iq x hxm).1 rfl
        · exact hfr mb e mb (.inr (.inl rfl)) (A.iq x hxm).2.1 rfl
        · exact hfr g hg' g (.inr (.inr (.inl e))) (fun h' => (A.iq x hxm).2.2 g h' e) rfl
      · exact A.iq y (hmem hy)
    · rcases hmem' hy with e | hy
      · subst e
        rcases hmem' hz with e | hz
        · subst e
          exact fun e => hfr x.kb e x.kb (.inr (.inr (.inr ⟨x, hxm, .inl rfl⟩))) (A.ik x hxm x hxm) rfl
        · exact fun e => hfr z.kb e z.kb (.inr (.inr (.inr ⟨z, hmem hz, .inl rfl⟩))) (A.ik x hxm z (hmem hz)) rfl
      · rcases hmem' hz with e | hz
        · subst e; exact A.ik y (hmem hy) x hxm
        · exact A.ik y (hmem hy) z (hmem hz)
    · rcases hmem' hy with e | hy
      · subst e
        rcases hmem' hz with e | hz
        · subst e; exact absurd rfl hne
        · refine ⟨(A.xy x hxm z (hmem hz) hne).1, fun g hg' e => ?_⟩
          exact hfr g hg' g (.inr (.inr (.inr ⟨z, hmem hz, .inr e⟩))) (fun h' => (A.xy x hxm z (hmem hz) hne).2 g h' e) rfl
      · rcases hmem' hz with e | hz
        · subst e
          refine ⟨(A.xy y (hmem hy) x hxm hne).1, fun g hg' e => ?_⟩
          exact hfr g e g (.inr (.inr (.inr ⟨y, hmem hy, .inr hg'⟩))) (fun h' => (A.xy y (hmem hy) x hxm hne).2 g hg' h') rfl
        · exact A.xy y (hmem hy) z (hmem hz) hne

/-- what a turned day may reach: what was the queue's, or new blocks -/
theorem Foot.replace {l1 l2 : List Day} {x : Day} {iv' : Value} {es' : List Ent} {s : Nat} (hg : ∀ g, iv'.ownBlock = some g → x.iv.ownBlock = some g ∨ s ≤ g) {k : Nat} (hk : Foot qb mb dv (l1 ++ ⟨x.kb, x.date, iv', es'⟩ :: l2) k) :
    Foot qb mb dv (l1 ++ x :: l2) k ∨ s ≤ k := by
  have hxm : x ∈ l1 ++ x :: l2 := by simp
  rcases hk with hk | hk | hk | ⟨y, hy, hk⟩
  · exact .inl (.inl hk)
  · exact .inl (.inr (.inl hk))
  · exact .inl (.inr (.inr (.inl hk)))
  · rcases List.mem_append.1 hy with hy | hy
    · exact .inl (.inr (.inr (.inr ⟨y, List.mem_append_left _ hy, hk⟩)))
    · rcases List.mem_cons.1 hy with hy | hy
      · subst hy
        rcases hk with hk | hk
        · exact .inl (.inr (.inr (.inr ⟨x, hxm, .inl hk⟩)))
        · rcases hg k hk with h | h
          · exact .inl (.inr (.inr (.inr ⟨x, hxm, .inr h⟩)))
          · exact .inr h
      · exact .inl (.inr (.inr (.inr ⟨y, List.mem_append_right _ (List.mem_cons_of_mem _ hy), hk⟩)))

end

theorem perm_map_inv {α β : Type} (f : α → β) {l l' : List β} (h : l.Perm l') : ∀ m : List α, m.map f = l' → ∃ m' : List α, m'.map f = l ∧ m'.Perm m := by
  induction h with
  | nil => intro m hm; exact ⟨[], rfl, by cases m with | nil => exact List.Perm.refl _ | cons a r => simp at hm⟩
  | cons a _ ih =>
    intro m hm
    cases m with
    | nil => simp at hm
    | cons b r =>
      simp only [List.map_cons, List.cons.injEq] at hm
      obtain ⟨m', h1, h2⟩ := ih r hm.2
      exact ⟨b :: m', by simp [h1, hm.1], h2.cons b⟩
  | swap a b l =>
    intro m hm
    cases m with
    | nil => simp at hm
    | cons c r =>
      cases r with
      | nil => simp at hm
      | cons d r =>
        simp only [List.map_cons, List.cons.injEq] at hm
        exact ⟨d :: c :: r, by simp [hm.1, hm.2.1, hm.2.2], List.Perm.swap _ _ _⟩
  | trans _ _ ih1 ih2 =>
    intro m hm
    obtain ⟨m1, h1, h2⟩ := ih2 m hm
    obtain ⟨m2, h3, h4⟩ := ih1 m1 h1
    exact ⟨m2, h3, h4.trans h2⟩

end Go.Proofs.Ytbpaigpjffdcbaa
