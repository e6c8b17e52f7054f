/-
  A model with another load at a start: right, and in memory.
-/
import Derived.Test.YtbpaigpjffdcbaaReach
import Derived.Test.YtbpaigpjffdcbaaRun2
import Derived.Test.YtbpaigpjffdcbaaMade
namespace Go.Proofs.Ytbpaigpjffdcbaa
open Go.RowKit Go.Sort Go.Maps

theorem firstIx_noneU {α : Type} {p : α → Bool} {l : List α} (h : ∀ (j : Nat) (y : α), l[j]? = some y → p y = false) : firstIx p l = -1 := by
  rcases firstIx_cases p l with h1 | ⟨i, x, _, h1, h2, _⟩
  · exact h1.1
  · rw [h i x h1] at h2; cases h2
theorem valid_of_right {m : Mdl} {en : Int} (h : Right m) (h0 : 0 ≤ en) (h1 : en ≤ 200) : valid m en = (0, 0) := by
  have l := h.lim
  have a := l.p1
  have b := l.p2
  have c := l.s1
  have d := l.s2
  have e := l.l1
  have f := l.l2
  have g := l.nl
  have i := l.nr
  have j := l.ns
  refine valid_ok ?_ (firstIx_noneU h.links) ?_ (firstIx_noneU h.starts) ?_
  · simp only [limB, withinB, Bool.and_eq_true, decide_eq_true_eq]
    refine ⟨⟨⟨⟨⟨⟨a, b⟩, c, d⟩, e, f⟩, ?_⟩, ?_⟩, ?_⟩ <;> omega
  · unfold wrongRule
    refine firstIx_noneU fun k y hk => ?_
    have hk' := get_lt hk
    rw [List.getElem?_range (by simpa using hk')] at hk
    cases hk
    rw [h.rules k (by simpa using hk')]; rfl
  · simp only [withinB, Bool.and_eq_true, decide_eq_true_eq]; exact ⟨h0, h1⟩
theorem answer_right {m : Mdl} {en : Int} (h : Right m) (h0 : 0 ≤ en) (h1 : en ≤ 200) : answer m en = (0, 0) ∨ answer m en = (6, 0) := by
  rw [answer, if_pos (valid_of_right h h0 h1)]
  split
  · exact .inl rfl
  · exact .inr rfl
theorem right_reload {m : Mdl} {s : Nat} {x : MStart} {load : Int} (h : Right m) (hx : m.starts[s]? = some x) (h0 : 0 ≤ load) (h1 : load < m.loads) : Right (reload m s x load) := by
  have l := h.lim
  refine ⟨⟨l.p1, l.p2, l.s1, l.s2, l.l1, l.l2, l.nl, l.nr, ?_⟩, h.links, h.rules, fun j y hy => ?_⟩
  · show (m.starts.set s _).length ≤ 12
    rw [List.length_set]; exact l.ns
  · have hs := h.start hx
    have hy : (m.starts.set s ⟨x.p, x.t, load⟩)[j]? = some y := hy
    rcases set_get hy with ⟨_, e2⟩ | ⟨_, e2⟩
    · subst e2
      show startBad m ⟨x.p, x.t, load⟩ = false
      simp only [startBad, isP, isL, withinB, Bool.or_eq_false_iff, Bool.not_eq_false', Bool.and_eq_true, decide_eq_true_eq]
      omega
    · exact h.starts j y e2

theorem Own.raise {α : Type} {E : Enc α} {w : World} {B B' : Nat} {v : Value} {l : List α} (h : Own E w B v l) (hg : ∀ g, v.ownBlock = some g → B' ≤ g) : Own E w B' v l := by
  obtain ⟨h1, h2⟩ := h
  refine ⟨h1, ?_⟩
  rcases h2 with h2 | ⟨g, cap, cur, hv, _, r⟩
  · exact .inl h2
  · exact .inr ⟨g, cap, cur, hv, hg g (by rw [hv]; rfl), r⟩
theorem Own.rowsBelow {α : Type} {E : Enc α} {w : World} {B N : Nat} {v : Value} {l : List α} (h : Own E w B v l) (hg : ∀ g, v.ownBlock = some g → g < N) : RowsAt E.sz E.enc w N v l := by
  rcases h.form with ⟨h1, h2⟩ | ⟨g, cap, h1, h2⟩
  · subst h2
    exact ⟨none, 0, h1, Nat.le_refl _, fun h => absurd rfl h⟩
  · subst h1
    refine ⟨_, _, rfl, h2, fun _ => ⟨g, 0, rfl, hg g rfl, fun j x k u hx hu => ?_⟩⟩
    rw [Nat.zero_add]
    exact h.cell hx hu
theorem Own.blk {α : Type} {E : Enc α} {w : World} {B g len cap : Nat} {l : List α} (h : Own E w B (.slice (some ⟨g, 0, none⟩) len cap) l) : ∃ c, Blk w g c E.T := by
  rcases h.2 with ⟨h1, _⟩ | ⟨g', cap', cur, h1, _, h3, _⟩
  · cases h1
  · simp only [Value.slice.injEq, Option.some.injEq, Addr.mk.injEq, and_true] at h1
    obtain ⟨rfl, _⟩ := h1
    exact ⟨cur, h3⟩

theorem starts_set {w : World} {B g cap : Nat} {l : List MStart} (h : Own stE w B (.slice (some ⟨g, 0, none⟩) l.length cap) l) {s : Nat} {x : MStart} (hx : l[s]? = some x) (load : Int) :
    StartsAt (w.setCell ⟨g, s * 3 + 2, none⟩ (.int .i64 load)) w.heap.size (.slice (some ⟨g, 0, none⟩) l.length cap) (l.set s ⟨x.p, x.t, load⟩) := by
  obtain ⟨c, hb⟩ := h.blk
  have hcap : l.length ≤ cap := by
    rcases h.form with ⟨h1, _⟩ | ⟨_, _, h1, h2⟩
    · cases h1
    · cases h1; exact h2
  refine ⟨_, _, by rw [List.length_set], by rw [List.length_set]; exact hcap, fun _ => ⟨g, 0, rfl, (h.lt rfl).2, fun j y k u hj hu => ?_⟩⟩
  have hk : k < 3 := get_lt hu
  rw [Nat.zero_add, (hb.set (s * 3 + 2) (.int .i64 load)).cell]
  have old : ∀ (i : Nat) (z : MStart) (k : Nat) (v : Value), l[i]? = some z → (startC z)[k]? = some v → c[i * 3 + k]? = some v := fun i z k v hi hv => by
    rw [← hb.cell]; exact h.cell (E := stE) hi hv
  rcases set_get hj with ⟨e1, e2⟩ | ⟨e1, e2⟩
  · subst e1 e2
    have h2 := old j x 2 (.int .i64 x.l) hx rfl
    have hlt : j * 3 + 2 < c.size := by
      rcases Nat.lt_or_ge (j * 3 + 2) c.size with h' | h'
      · exact h'
      · rw [Array.getElem?_eq_none h'] at h2; cases h2
    have : k = 0 ∨ k = 1 ∨ k = 2 := by omega
    rcases this with rfl | rfl | rfl
    · rw [Array.getElem?_setIfInBounds_ne (by omega)]
      exact (old j x 0 (.int .i64 x.p) hx rfl).trans hu
    · rw [Array.getElem?_setIfInBounds_ne (by omega)]
      exact (old j x 1 (.int .i64 x.t) hx rfl).trans hu
    · rw [Array.getElem?_setIfInBounds_self_of_lt hlt]
      exact hu
  · rw [Array.getElem?_setIfInBounds_ne (by omega)]
    exact old j y k u e2 hu

end Go.Proofs.Ytbpaigpjffdcbaa
