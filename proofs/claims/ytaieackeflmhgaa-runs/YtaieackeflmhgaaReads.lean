/-
  A model, out of its reading: what the row gives, as a plain model in memory.
-/
import Derived.Test.YtaieackeflmhgaaJ04
import Derived.ProofKit
import Derived.SizedLaws
import Derived.Deep.Slices
import Derived.Deep.Strs
import Derived.Lib.SmallJoins
namespace Go.Proofs.Ytaieackeflmhgaa
open Go.ChangeShapes Go.WideShapes Go.ChangeAt Go.RowKit Go.Deep

theorem cellsI : Try.prog.cellsOf 3 = 1 := by kernel_rfl
theorem cellsLk : Try.prog.cellsOf 93 = 3 := by kernel_rfl
theorem cellsEt : Try.prog.cellsOf 100 = 3 := by kernel_rfl
theorem cellsSt : Try.prog.cellsOf 72 = 3 := by kernel_rfl
theorem cellsRl : Try.prog.cellsOf 97 = 5 := by kernel_rfl
theorem cellsMd : Try.prog.cellsOf 26 = 6 := by kernel_rfl
theorem cellsSl0 : Try.prog.cellsOf 95 = 1 := by kernel_rfl
theorem cellsSl1 : Try.prog.cellsOf 22 = 1 := by kernel_rfl
theorem cellsSl2 : Try.prog.cellsOf 23 = 1 := by kernel_rfl
theorem cellsSl3 : Try.prog.cellsOf 24 = 1 := by kernel_rfl
theorem bytesLk : Try.prog.bytesOf 93 = 24 := by kernel_rfl
theorem bytesEt : Try.prog.bytesOf 100 = 24 := by kernel_rfl
theorem bytesSt : Try.prog.bytesOf 72 = 24 := by kernel_rfl
theorem bytesRl : Try.prog.bytesOf 97 = 56 := by kernel_rfl

theorem list_of_fnR {α : Type} (n : Nat) (p : Nat → α → Prop) (h : ∀ i, i < n → ∃ x, p i x) : ∃ l : List α, l.length = n ∧ ∀ (j : Nat) (x : α), l[j]? = some x → p j x := by
  induction n with
  | zero => exact ⟨[], rfl, fun j x hx => by simp at hx⟩
  | succ n ih =>
    obtain ⟨l, h1, h2⟩ := ih (fun i hi => h i (by omega))
    obtain ⟨y, hy⟩ := h n (by omega)
    refine ⟨l ++ [y], by simp [h1], fun j x hx => ?_⟩
    by_cases hj : j < l.length
    · rw [List.getElem?_append_left hj] at hx; exact h2 j x hx
    · rw [List.getElem?_append_right (by omega)] at hx
      have : j = n := by
        have := get_lt hx
        simp at this; omega
      subst this
      have e : j - l.length = 0 := by omega
      rw [e] at hx
      simp at hx
      rw [← hx]; exact hy

theorem three {cs : List Value} (h : cs.length = 3) : ∃ a b c, cs = [a, b, c] := by
  match cs, h with
  | [a, b, c], _ => exact ⟨a, b, c, rfl⟩
theorem five {cs : List Value} (h : cs.length = 5) : ∃ a b c d e, cs = [a, b, c, d, e] := by
  match cs, h with
  | [a, b, c, d, e], _ => exact ⟨a, b, c, d, e, rfl⟩
theorem sixR {cs : List Value} (h : cs.length = 6) : ∃ a b c d e f, cs = [a, b, c, d, e, f] := by
  match cs, h with
  | [a, b, c, d, e, f], _ => exact ⟨a, b, c, d, e, f, rfl⟩

section
variable {H : Type} {enc : TypeId × Value → H} {w : World} {spare : Nat → Bool} {held : Bool}

theorem link_cells {fuel : Nat} {cs : List Value} {x : DataW H × List MemPlace} (h : DataW.trod enc Try.prog w 0 spare held fuel 93 cs = some x) : ∃ a : MLink, cs = linkC a := by
  obtain ⟨y0, y1, y2, n, _, hl, t0, t1, t2⟩ := trod_struct3 Try.underlying93 h
  rw [cellsLk] at hl
  obtain ⟨a, b, c, rfl⟩ := three hl
  simp only [cellsI] at t0 t1 t2
  obtain ⟨i0, e0, _, _⟩ := DataW.trod_int Try.underlying3 t0
  obtain ⟨i1, e1, _, _⟩ := DataW.trod_int Try.underlying3 t1
  obtain ⟨i2, e2, _, _⟩ := DataW.trod_int Try.underlying3 t2
  simp at e0 e1 e2
  subst e0 e1 e2
  exact ⟨⟨i0, i1, i2⟩, rfl⟩
theorem emit_cells {fuel : Nat} {cs : List Value} {x : DataW H × List MemPlace} (h : DataW.trod enc Try.prog w 0 spare held fuel 100 cs = some x) : ∃ a : MEmit, cs = emitC a := by
  obtain ⟨y0, y1, y2, n, _, hl, t0, t1, t2⟩ := trod_struct3 Try.underlying100 h
  rw [cellsEt] at hl
  obtain ⟨a, b, c, rfl⟩ := three hl
  simp only [cellsI] at t0 t1 t2
  obtain ⟨i0, e0, _, _⟩ := DataW.trod_int Try.underlying3 t0
  obtain ⟨i1, e1, _, _⟩ := DataW.trod_int Try.underlying3 t1
  obtain ⟨i2, e2, _, _⟩ := DataW.trod_int Try.underlying3 t2
  simp at e0 e1 e2
  subst e0 e1 e2
  exact ⟨⟨i0, i1, i2⟩, rfl⟩
theorem start_cells {fuel : Nat} {cs : List Value} {x : DataW H × List MemPlace} (h : DataW.trod enc Try.prog w 0 spare held fuel 72 cs = some x) : ∃ a : MStart, cs = startC a := by
  obtain ⟨y0, y1, y2, n, _, hl, t0, t1, t2⟩ := trod_struct3 Try.underlying72 h
  rw [cellsSt] at hl
  obtain ⟨a, b, c, rfl⟩ := three hl
  simp only [cellsI] at t0 t1 t2
  obtain ⟨i0, e0, _, _⟩ := DataW.trod_int Try.underlying3 t0
  obtain ⟨i1, e1, _, _⟩ := DataW.trod_int Try.underlying3 t1
  obtain ⟨i2, e2, _, _⟩ := DataW.trod_int Try.underlying3 t2
  simp at e0 e1 e2
  subst e0 e1 e2
  exact ⟨⟨i0, i1, i2⟩, rfl⟩

/-- a row, out of its reading -/
theorem rows_open {α : Type} {t e : TypeId} {sz : Nat} (en : α → List Value) (hpos : 0 < sz) (hlen : ∀ a, (en a).length = sz) (ht : Try.prog.underlying t = some (.slice e)) (hc : Try.prog.cellsOf e = sz) (Q : DataW H → α → Prop)
    (hel : ∀ (fuel : Nat) (cs : List Value) (y : DataW H × List MemPlace), DataW.trod enc Try.prog w 0 spare held fuel e cs = some y → ∃ a, cs = en a ∧ Q y.1 a)
    {fuel : Nat} {cs : List Value} {x : DataW H × List MemPlace} (h : DataW.trod enc Try.prog w 0 spare held fuel t cs = some x) :
    ∃ (v : Value) (l : List α), cs = [v] ∧ RowsAt sz en w w.heap.size v l ∧ (l = [] ∨ ∃ elems sp, x.1 = .slice elems sp ∧ elems.length = l.length ∧ ∀ a ∈ l, ∃ d ∈ elems, Q d a) := by
  rcases open_slice ht h with ⟨hcs, hx⟩ | ⟨a, len, cap, m, n, D, Pl, hcs, _, hl, hm, hmm, hx, hq⟩
  · exact ⟨_, [], hcs, ⟨none, 0, rfl, Nat.le_refl _, fun h => absurd rfl h⟩, .inl rfl⟩
  · have hlm : len ≤ m := by rw [hmm]; split <;> omega
    obtain ⟨ab, ao, asp⟩ := a
    rw [hc] at hq
    obtain ⟨l, hll, hlp⟩ := list_of_fnR (α := α) len (fun i o => w.cells? 0 ((⟨ab, ao, asp⟩ : Addr).add (i * sz)) sz = some (en o) ∧ Q (D i) o) (fun i hi => by
      obtain ⟨cs', c1, c2⟩ := hq i (by omega)
      obtain ⟨o, ho, hQ⟩ := hel _ _ _ c2
      exact ⟨o, by rw [c1, ho], hQ⟩)
    refine ⟨_, l, hcs, ⟨_, _, by rw [hll], by omega, fun hne => ?_⟩, .inr ⟨(List.range len).map D, _, by rw [hx], by simp [hll], fun o ho => ?_⟩⟩
    · have hp0 : 0 < l.length := List.length_pos_iff.2 hne
      obtain ⟨o0, ho0⟩ := get_of_lt hp0
      have c00 := (World.cells?_some (hlp 0 o0 ho0).1).2.2 0 hpos
      have hu : ∃ u, (en o0)[0]? = some u := ⟨_, List.getElem?_eq_getElem (by rw [hlen]; exact hpos)⟩
      obtain ⟨u, hu⟩ := hu
      have hspot : asp = none := by
        have := World.cell?_spot (c00.trans hu)
        simpa [Addr.add] using this
      subst hspot
      refine ⟨ab, ao, rfl, ?_, fun j o k u' ho hu' => ?_⟩
      · refine block_lt_of_cell (a := (⟨ab, ao, none⟩ : Addr)) (v := u) ?_
        rw [hu] at c00
        simpa [Addr.add] using c00
      · have hk : k < sz := by have := get_lt hu'; rw [hlen] at this; exact this
        have hcc := (World.cells?_some (hlp j o ho).1).2.2 k hk
        rw [add_plain, add_plain] at hcc
        rw [hcc]; exact hu'
    · obtain ⟨j, hj⟩ := List.getElem?_of_mem ho
      have hjl := get_lt hj
      exact ⟨D j, List.mem_map_of_mem (List.mem_range.2 (by omega)), (hlp j o hj).2⟩

theorem trod_struct5 {t : TypeId} {f0 f1 f2 f3 f4 : Field} {fuel : Nat} {cs : List Value} {x : DataW H × List MemPlace} (ht : Try.prog.underlying t = some (.struct #[f0, f1, f2, f3, f4])) (h : DataW.trod enc Try.prog w 0 spare held fuel t cs = some x) :
    ∃ y0 y1 y2 y3 y4 n, x.1 = .agg [y0.1, y1.1, y2.1, y3.1, y4.1] ∧ cs.length = Try.prog.cellsOf t ∧ DataW.trod enc Try.prog w 0 spare held n f0.type ((cs.drop f0.offset).take (Try.prog.cellsOf f0.type)) = some y0 ∧
      DataW.trod enc Try.prog w 0 spare held n f1.type ((cs.drop f1.offset).take (Try.prog.cellsOf f1.type)) = some y1 ∧ DataW.trod enc Try.prog w 0 spare held n f2.type ((cs.drop f2.offset).take (Try.prog.cellsOf f2.type)) = some y2 ∧
      DataW.trod enc Try.prog w 0 spare held n f3.type ((cs.drop f3.offset).take (Try.prog.cellsOf f3.type)) = some y3 ∧ DataW.trod enc Try.prog w 0 spare held n f4.type ((cs.drop f4.offset).take (Try.prog.cellsOf f4.type)) = some y4 := by
  obtain ⟨xs, n, _, rfl, hl, hlen, hf⟩ := DataW.trod_struct ht h
  match xs, hlen with
  | [y0, y1, y2, y3, y4], _ => exact ⟨y0, y1, y2, y3, y4, n, by simp, hl, by simpa using hf 0 f0 rfl, by simpa using hf 1 f1 rfl, by simpa using hf 2 f2 rfl, by simpa using hf 3 f3 rfl, by simpa using hf 4 f4 rfl⟩
theorem trod_struct6 {t : TypeId} {f0 f1 f2 f3 f4 f5 : Field} {fuel : Nat} {cs : List Value} {x : DataW H × List MemPlace} (ht : Try.prog.underlying t = some (.struct #[f0, f1, f2, f3, f4, f5])) (h : DataW.trod enc Try.prog w 0 spare held fuel t cs = some x) :
    ∃ y0 y1 y2 y3 y4 y5 n, x.1 = .agg [y0.1, y1.1, y2.1, y3.1, y4.1, y5.1] ∧ cs.length = Try.prog.cellsOf t ∧ DataW.trod enc Try.prog w 0 spare held n f0.type ((cs.drop f0.offset).take (Try.prog.cellsOf f0.type)) = some y0 ∧
      DataW.trod enc Try.prog w 0 spare held n f1.type ((cs.drop f1.offset).take (Try.prog.cellsOf f1.type)) = some y1 ∧ DataW.trod enc Try.prog w 0 spare held n f2.type ((cs.drop f2.offset).take (Try.prog.cellsOf f2.type)) = some y2 ∧
      DataW.trod enc Try.prog w 0 spare held n f3.type ((cs.drop f3.offset).take (Try.prog.cellsOf f3.type)) = some y3 ∧ DataW.trod enc Try.prog w 0 spare held n f4.type ((cs.drop f4.offset).take (Try.prog.cellsOf f4.type)) = some y4 ∧
      DataW.trod enc Try.prog w 0 spare held n f5.type ((cs.drop f5.offset).take (Try.prog.cellsOf f5.type)) = some y5 := by
  obtain ⟨xs, n, _, rfl, hl, hlen, hf⟩ := DataW.trod_struct ht h
  match xs, hlen with
  | [y0, y1, y2, y3, y4, y5], _ => exact ⟨y0, y1, y2, y3, y4, y5, n, by simp, hl, by simpa using hf 0 f0 rfl, by simpa using hf 1 f1 rfl, by simpa using hf 2 f2 rfl, by simpa using hf 3 f3 rfl, by simpa using hf 4 f4 rfl, by simpa using hf 5 f5 rfl⟩

/-- no weight of a reading passes the limit -/
def Small (t : TypeId) (d : DataW H) : Prop := ∀ n ∈ d.weights Try.prog t, n ≤ reachBytes

theorem Small.slice {t e : TypeId} {elems sp : List (DataW H)} (ht : Try.prog.underlying t = some (.slice e)) (h : Small t (.slice elems sp)) : elems.length * Try.prog.bytesOf e ≤ reachBytes ∧ ∀ d ∈ elems, Small e d := by
  unfold Small at h
  simp only [DataW.weights, ht] at h
  refine ⟨?_, fun d hd n hn => h n ?_⟩
  · have := h _ (List.mem_cons_self ..)
    rw [Nat.add_mul] at this
    omega
  · refine List.mem_cons_of_mem _ (List.mem_append_left _ ?_)
    clear h
    induction elems with
    | nil => simp at hd
    | cons a l ih =>
      simp only [DataW.weightsAll, List.mem_append]
      rcases List.mem_cons.1 hd with rfl | hd
      · exact .inl hn
      · exact .inr (ih hd)
theorem weights_each {ts : List TypeId} {ds : List (DataW H)} {j : Nat} {t : TypeId} {d : DataW H} (ht : ts[j]? = some t) (hd : ds[j]? = some d) (h : ∀ n ∈ DataW.weightsEach Try.prog ts ds, n ≤ reachBytes) : Small t d := by
  intro n hn
  exact h n (DataW.weights_mem_each ht hd n hn)

theorem rule_cells {fuel : Nat} {cs : List Value} {x : DataW H × List MemPlace} (h : DataW.trod enc Try.prog w 0 spare held fuel 97 cs = some x) :
    ∃ a : RuleV, cs = ruleC a ∧ EmitsAt w w.heap.size a.ev a.r.es ∧ (Small 97 x.1 → a.r.es.length * 24 ≤ reachBytes) := by
  obtain ⟨y0, y1, y2, y3, y4, n, hx, hl, t0, t1, t2, t3, t4⟩ := trod_struct5 Try.underlying97 h
  rw [cellsRl] at hl
  obtain ⟨a, b, c, d, e, rfl⟩ := five hl
  simp only [cellsI, cellsSl0] at t0 t1 t2 t3 t4
  obtain ⟨i0, e0, _, _⟩ := DataW.trod_int Try.underlying3 t0
  obtain ⟨i1, e1, _, _⟩ := DataW.trod_int Try.underlying3 t1
  obtain ⟨i2, e2, _, _⟩ := DataW.trod_int Try.underlying3 t2
  obtain ⟨i3, e3, _, _⟩ := DataW.trod_int Try.underlying3 t3
  obtain ⟨v, l, e4, hR, hs⟩ := rows_open emitC (by omega) (fun _ => rfl) Try.underlying95 cellsEt (fun _ _ => True) (fun f cs y hy => by obtain ⟨o, ho⟩ := emit_cells hy; exact ⟨o, ho, trivial⟩) t4
  simp at e0 e1 e2 e3 e4
  subst e0 e1 e2 e3 e4
  refine ⟨⟨⟨i0, i1, i2, i3, l⟩, _⟩, rfl, hR, fun hS => ?_⟩
  rcases hs with rfl | ⟨elems, sp, hd, hel, _⟩
  · simp
  · rw [hx] at hS
    have h4 : Small 95 y4.1 := by
      unfold Small at hS
      simp only [DataW.weights, Try.underlying97] at hS
      exact weights_each (j := 4) rfl rfl hS
    rw [hd] at h4
    have := (h4.slice Try.underlying95).1
    rw [bytesEt, hel] at this
    exact this

theorem model_cells {fuel : Nat} {cs : List Value} {x : DataW H × List MemPlace} (h : DataW.trod enc Try.prog w 0 spare held fuel 26 cs = some x) (hS : Small 26 x.1) :
    ∃ (m : Mdl) (lv rv sv : Value) (R : List RuleV), cs = [.int .i64 m.procs, .int .i64 m.states, .int .i64 m.loads, lv, rv, sv] ∧ ModelAt w w.heap.size lv rv sv m R ∧ m.links.length * 24 ≤ reachBytes ∧ m.rules.length * 56 ≤ reachBytes ∧ m.starts.length * 24 ≤ reachBytes ∧ ∀ r ∈ m.rules, r.es.length * 24 ≤ reachBytes := by
  obtain ⟨y0, y1, y2, y3, y4, y5, n, hx, hl, t0, t1, t2, t3, t4, t5⟩ := trod_struct6 Try.underlying26 h
  rw [cellsMd] at hl
  obtain ⟨a, b, c, d, e, f, rfl⟩ := sixR hl
  simp only [cellsI, cellsSl1, cellsSl2, cellsSl3] at t0 t1 t2 t3 t4 t5
  obtain ⟨i0, e0, _, _⟩ := DataW.trod_int Try.underlying3 t0
  obtain ⟨i1, e1, _, _⟩ := DataW.trod_int Try.underlying3 t1
  obtain ⟨i2, e2, _, _⟩ := DataW.trod_int Try.underlying3 t2
  obtain ⟨lv, l, e3, hL, hsL⟩ := rows_open linkC (by omega) (fun _ => rfl) Try.underlying22 cellsLk (fun _ _ => True) (fun f cs y hy => by obtain ⟨o, ho⟩ := link_cells hy; exact ⟨o, ho, trivial⟩) t3
  obtain ⟨rv, R, e4, hR, hsR⟩ := rows_open ruleC (by omega) (fun _ => rfl) Try.underlying23 cellsRl (fun d a => EmitsAt w w.heap.size a.ev a.r.es ∧ (Small 97 d → a.r.es.length * 24 ≤ reachBytes)) (fun f cs y hy => rule_cells hy) t4
  obtain ⟨sv, s, e5, hSt, hsS⟩ := rows_open startC (by omega) (fun _ => rfl) Try.underlying24 cellsSt (fun _ _ => True) (fun f cs y hy => by obtain ⟨o, ho⟩ := start_cells hy; exact ⟨o, ho, trivial⟩) t5
  simp at e0 e1 e2 e3 e4 e5
  subst e0 e1 e2 e3 e4 e5
  have hW : ∀ (j : Nat) (t : TypeId) (d : DataW H), ([3, 3, 3, 22, 23, 24] : List TypeId)[j]? = some t → [y0.1, y1.1, y2.1, y3.1, y4.1, y5.1][j]? = some d → Small t d := by
    intro j t d ht hd
    rw [hx] at hS
    unfold Small at hS
    simp only [DataW.weights, Try.underlying26] at hS
    exact weights_each ht hd hS
  refine ⟨⟨i0, i1, i2, l, R.map RuleV.r, s⟩, _, _, _, R, rfl, ⟨hL, ⟨hR, fun z hz => ?_⟩, hSt, rfl⟩, ?_, ?_, ?_, ?_⟩
  · rcases hsR with rfl | ⟨elems, sp, hd, hel, hq⟩
    · simp at hz
    · obtain ⟨_, _, h1, _⟩ := hq z hz
      exact h1
  · rcases hsL with rfl | ⟨elems, sp, hd, hel, _⟩
    · simp
    · have h1 := hW 3 _ _ rfl rfl
      rw [hd] at h1
      have := (h1.slice Try.underlying22).1
      rw [bytesLk, hel] at this
      exact this
  · rcases hsR with rfl | ⟨elems, sp, hd, hel, _⟩
    · simp
    · have h1 := hW 4 _ _ rfl rfl
      rw [hd] at h1
      have := (h1.slice Try.underlying23).1
      rw [bytesRl, hel] at this
      simpa using this
  · rcases hsS with rfl | ⟨elems, sp, hd, hel, _⟩
    · simp
    · have h1 := hW 5 _ _ rfl rfl
      rw [hd] at h1
      have := (h1.slice Try.underlying24).1
      rw [bytesSt, hel] at this
      exact this
  · intro r hr
    obtain ⟨z, hz, rfl⟩ := List.mem_map.1 hr
    rcases hsR with rfl | ⟨elems, sp, hd, hel, hq⟩
    · simp at hz
    · obtain ⟨d, hdm, _, h2⟩ := hq z hz
      have h1 := hW 4 _ _ rfl rfl
      rw [hd] at h1
      exact h2 ((h1.slice Try.underlying23).2 d hdm)

end
end Go.Proofs.Ytaieackeflmhgaa

