/-
  A queue beside its list: what both hold.
-/
import Derived.Test.YtaieackeflmhgaaK08
namespace Go.Proofs.Ytaieackeflmhgaa
open Go.RowKit Go.Sort Go.Maps

structure Pair (w : World) (B qb mb : Nat) (dv : Value) (n : Nat) (ds : List Day) (rest : Array Value) (Tq : TypeId) (width : Int) (pushed : Nat) (lv : Value) (l : List It) (L : List Ent) : Prop where
  core : QCore w B qb mb dv n ds rest Tq width (L.length : Int) (pushed : Int)
  filled : Filled width ds
  perm : L.Perm (allEs ds)
  sorted : L.Pairwise (fun a b => a.r < b.r)
  rank : ∀ e ∈ L, 0 ≤ e.r ∧ e.r < pushed
  items : L.map Ent.it = l
  inint : ∀ e ∈ L, InInt e.it.t
  list : ISl w B lv l
  apartL : ∀ g, lv.ownBlock = some g → ¬ Foot qb mb dv ds g
  wid1 : 1 ≤ width
  wid2 : width ≤ 100
  nle : n ≤ pushed
  lenle : L.length ≤ pushed

/-- the blocks of a queue and of its list -/
def PFoot (qb mb : Nat) (dv : Value) (ds : List Day) (lv : Value) (k : Nat) : Prop := Foot qb mb dv ds k ∨ lv.ownBlock = some k

section
variable {w w' : World} {B qb mb : Nat} {dv : Value} {n : Nat} {ds : List Day} {rest : Array Value} {Tq : TypeId} {width : Int} {pushed : Nat} {lv : Value} {l : List It} {L : List Ent}

theorem Pair.foot_lt (h : Pair w B qb mb dv n ds rest Tq width pushed lv l L) {k : Nat} (hk : PFoot qb mb dv ds lv k) : B ≤ k ∧ k < w.heap.size := by
  rcases hk with hk | hk
  · exact h.core.foot_lt hk
  · exact h.list.lt hk

theorem Pair.keep {G : Nat → Prop} (h : Pair w B qb mb dv n ds rest Tq width pushed lv l L) (k : KeptF G w w') (hG : ∀ i, PFoot qb mb dv ds lv i → ¬ G i) : Pair w' B qb mb dv n ds rest Tq width pushed lv l L :=
  ⟨h.core.keep k (fun i hi => hG i (.inl hi)), h.filled, h.perm, h.sorted, h.rank, h.items, h.inint, h.list.keep k (fun g hg => hG g (.inr hg)), h.apartL, h.wid1, h.wid2, h.nle, h.lenle⟩

theorem length_allEs : ∀ (ds : List Day), (∀ y ∈ ds, y.es ≠ []) → ds.length ≤ (allEs ds).length
  | [], _ => Nat.zero_le _
  | y :: ds, h => by
    have h1 := length_allEs ds (fun z hz => h z (List.mem_cons_of_mem _ hz))
    have h2 : 0 < y.es.length := List.length_pos_iff.2 (h y (List.mem_cons_self ..))
    simp only [allEs, List.flatMap_cons, List.length_append, List.length_cons] at *
    omega

theorem es_le_allEs : ∀ (ds : List Day) (x : Day), x ∈ ds → x.es.length ≤ (allEs ds).length
  | [], x, h => by simp at h
  | y :: ds, x, h => by
    simp only [allEs, List.flatMap_cons, List.length_append]
    rcases List.mem_cons.1 h with h | h
    · subst h; omega
    · have := es_le_allEs ds x h
      simp only [allEs] at this
      omega

theorem Pair.lens (h : Pair w B qb mb dv n ds rest Tq width pushed lv l L) : ds.length ≤ L.length ∧ (∀ x ∈ ds, x.es.length ≤ L.length) ∧ l.length = L.length := by
  refine ⟨?_, fun x hx => ?_, by rw [← h.items]; simp⟩
  · rw [h.perm.length_eq]; exact length_allEs ds (fun y hy => (h.filled y hy).1)
  · rw [h.perm.length_eq]; exact es_le_allEs ds x hx

/-- a time with a later date is later -/
theorem later_date {a b w : Int} (hw : 1 ≤ w) (h : a.tdiv w < b.tdiv w) : a < b := by
  rcases Int.lt_or_le a b with h' | h'
  · exact h'
  · have := Int.tdiv_le_tdiv (c := w) (by omega) h'
    omega

theorem QCore.top_least {x : Day} {r : List Day} {count pushed' : Int} {e : Ent} {es : List Ent} (h : QCore w B qb mb dv n (x :: r) rest Tq width count pushed') (hw : 1 ≤ width) (hF : Filled width (x :: r)) (he : x.es = e :: es) :
    ∀ a ∈ allEs (x :: r), a.ltB e = false := by
  intro a ha
  simp only [allEs, List.flatMap_cons, List.mem_append, List.mem_flatMap] at ha
  have hee : e ∈ x.es := by rw [he]; simp
  rcases ha with ha | ⟨y, hy, ha⟩
  · exact HeapL.least_mem Ent.orderly (h.each x (by simp)).2.2 (by rw [he]; rfl) ha
  · have hm : y.dy ∈ ((x :: r).map Day.dy) := List.mem_map_of_mem (List.mem_cons_of_mem _ hy)
    have h1 := HeapL.least_mem Dy.orderly h.heap (x := x.dy) rfl hm
    have h1' : decide (y.date < x.date) = false := h1
    rw [decide_eq_false_iff_not] at h1'
    have hnd := h.nodup
    rw [List.map_cons, List.nodup_cons] at hnd
    have hne : y.date ≠ x.date := fun e => hnd.1 (by rw [← e]; exact List.mem_map_of_mem hy)
    have ey := (hF y (List.mem_cons_of_mem _ hy)).2 a ha
    have ex := (hF x (by simp)).2 e hee
    have hlt : e.it.t < a.it.t := later_date hw (by rw [ex, ey]; omega)
    exact Ent.ltB_asymm ((Ent.ltB_iff e a).2 (.inl (.inl hlt)))

/-- the first least item of the list is the least entry of the queue -/
theorem pick_same {L : List Ent} {e : Ent} {j : Nat} {x : It} (hs : L.Pairwise (fun a b => a.r < b.r)) (he : e ∈ L) (hmin : ∀ a ∈ L, a.ltB e = false)
    (hx : (L.map Ent.it)[j]? = some x) (h1 : ∀ (m : Nat) (y : It), m < (L.map Ent.it).length → (L.map Ent.it)[m]? = some y → ¬ y.lt x) (h2 : ∀ (m : Nat) (y : It), m < j → (L.map Ent.it)[m]? = some y → x.lt y) :
    L[j]? = some e := by
  obtain ⟨m, hm⟩ := List.getElem?_of_mem he
  have hml := get_lt hm
  rw [List.getElem?_map] at hx
  obtain ⟨a, ha, rfl⟩ := Option.map_eq_some_iff.1 hx
  have hjl := get_lt ha
  have hma : (L.map Ent.it)[m]? = some e.it := by rw [List.getElem?_map, hm]; rfl
  have k1 := h1 m e.it (by simpa using hml) hma
  have k2 := hmin a (List.mem_of_getElem? ha)
  have k2' : ¬ a.lt e := fun h => by rw [(Ent.ltB_iff a e).2 h] at k2; cases k2
  have hpair := List.pairwise_iff_getElem.1 hs
  rcases Nat.lt_trichotomy m j with hmj | hmj | hmj
  · have := h2 m e.it hmj hma
    exact absurd (Or.inl this) k2'
  · subst hmj; exact hm
  · have hr := hpair j m hjl hml hmj
    have ea : L[j] = a := by
      have := List.getElem?_eq_getElem hjl
      rw [ha] at this; simpa using this.symm
    have ee : L[m] = e := by
      have := List.getElem?_eq_getElem hml
      rw [hm] at this; simpa using this.symm
    rw [ea, ee] at hr
    refine absurd ?_ k2'
    unfold Ent.lt It.lt It.same at *
    omega

theorem perm_eraseIdx {α : Type} : ∀ (L : List α) (j : Nat) (a : α), L[j]? = some a → L.Perm (a :: L.eraseIdx j)
  | [], j, a, h => by simp at h
  | b :: L, 0, a, h => by
    simp only [List.getElem?_cons_zero, Option.some.injEq] at h
    subst h
    exact List.Perm.refl _
  | b :: L, j + 1, a, h => by
    simp only [List.getElem?_cons_succ] at h
    exact ((perm_eraseIdx L j a h).cons b).trans (List.Perm.swap _ _ _)

theorem map_eraseIdx' {α β : Type} (f : α → β) : ∀ (L : List α) (j : Nat), (L.eraseIdx j).map f = (L.map f).eraseIdx j
  | [], j => by simp
  | b :: L, 0 => rfl
  | b :: L, j + 1 => by simp only [List.eraseIdx_cons_succ, List.map_cons, map_eraseIdx' f L j]

end

end Go.Proofs.Ytaieackeflmhgaa

