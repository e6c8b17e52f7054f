/-
  Rows of the program's own: a slice value that owns its block; append to it, as one step of a region.
-/
import Derived.Test.YtbpaigpjffdcbaaMem
import Derived.Deep.RegionLaw
import Derived.Laws.AppendOwn
namespace Go.Proofs.Ytbpaigpjffdcbaa
open Go.RowKit

theorem World.ownsRow_mono {w : World} {B B' : Nat} {e : TypeId} {size : Nat} {v : Value} {n : Nat} {xs : List Value} (h : w.ownsRow B e size v n xs) (hB : B' ≤ B) : w.ownsRow B' e size v n xs := by
  obtain ⟨h1, h2⟩ := h
  refine ⟨h1, ?_⟩
  rcases h2 with h2 | ⟨g, cap, cur, hv, hg, r⟩
  · exact .inl h2
  · exact .inr ⟨g, cap, cur, hv, by omega, r⟩

theorem World.ownsRow_ge {w : World} {B : Nat} {e : TypeId} {size : Nat} {v : Value} {n : Nat} {xs : List Value} (h : w.ownsRow B e size v n xs) (g : Nat) (hg : v.ownBlock = some g) : B ≤ g := (h.lt g hg).1

/-- append to a row of one's own: where the new value's block lies is said, too -/
theorem run_append_ownX {P : Program} (w : World) (base : Nat) (t ty e : TypeId) (i : TypeInfo) (z : Value) (size bytes : Nat) (ht : P.underlying t = some (.slice e)) (hi : P.info? e = some i) (hz : i.zero = some z)
    (hsize : i.size = size) (hby : i.bytes = bytes) (hzs : z.cells.size = size) (hsz : 0 < size)
    (v : Value) (n : Nat) (xs : List Value) (hown : w.ownsRow base e size v n xs)
    (a : Addr) (m c : Nat) (news : List Value) (hl : news.length = m * size) (hnews : ∀ j u, news[j]? = some u → w.cell? (a.add j) = some u) (h1 : ∀ u ∈ news, u.oneCell' = true)
    (h63 : n + m ≤ maxLen) (hbytes : (n + m) * bytes ≤ 140737488355328) (hbase : base ≤ w.heap.size) :
    ∃ v' w', (Builtin.append_ #[t, t] ty #[v, .slice (some a) m c]).run P w = .ok v' w' ∧ w'.ownsRow base e size v' (n + m) (xs ++ news) ∧ w.grownBy w' v.ownBlock ∧
      (∀ g, v'.ownBlock = some g → v.ownBlock = some g ∨ w.heap.size ≤ g) := by
  rcases hown.2 with ⟨hv, hn⟩ | ⟨g, cap, cur, hv, hbg, hg, hnc, hcm, hcs, htake⟩
  · subst hv; subst hn
    have hx : xs = [] := List.eq_nil_of_length_eq_zero (by simpa using hown.1)
    subst hx
    obtain ⟨v', w', r, r1, r2, _⟩ := run_append_own (P := P) w w.heap.size t ty e i z size bytes ht hi hz hsize hby hzs hsz (.slice none 0 0) 0 [] (World.ownsRow_nil w _ e size) a m c news hl hnews h1 h63 hbytes (Nat.le_refl _)
    exact ⟨v', w', r, World.ownsRow_mono r1 hbase, r2, fun g h => .inr (World.ownsRow_ge r1 g h)⟩
  · by_cases hroom : n + m ≤ cap
    · obtain ⟨v', w', r, r1, r2, _⟩ := run_append_own (P := P) w base t ty e i z size bytes ht hi hz hsize hby hzs hsz v n xs hown a m c news hl hnews h1 h63 hbytes hbase
      subst hv
      have hfit : n * i.size + news.length ≤ cur.size := by rw [hl, hcs, hsize, ← Nat.add_mul]; exact Nat.mul_le_mul_right _ hroom
      have hr := run_append_room (P := P) w t ty e i ht hi g n cap cur hg a m c news (by rw [hsize]; exact hl) hnews h1 hroom hfit
      have he := r.symm.trans hr
      simp only [Result.ok.injEq] at he
      refine ⟨v', w', r, r1, r2, fun k hk => .inl ?_⟩
      rw [he.1] at hk
      exact hk
    · subst hv
      obtain ⟨v', w', r, r1, r2⟩ := run_append_arg_grows (P := P) w t ty e i z size bytes ht hi hz hsize hby hzs hsz ⟨g, 0, none⟩ n cap xs hown.1 (hown.cells (g := g) rfl) a m c news hl hnews (by omega) h63 hbytes
      exact ⟨v', w', r, World.ownsRow_mono r1 hbase, ⟨r2.os, r2.tape, r2.output, r2.size, fun k hk _ => r2.block k hk (by simp)⟩, fun k hk => .inr (World.ownsRow_ge r1 k hk)⟩

theorem wpList_append_ownX {P : Program} {w : World} {ops : Array Oper} {rest : List Oper} {o : Oper} {a : Act} {Q : Exit → Act → World → Prop} (hgd : o.guard = none) (s x : Operand) (t : TypeId)
    (ho : o.op = .call { callee := .builtin .append, args := #[s, x], argTypes := #[t, t] })
    (base : Nat) (e : TypeId) (i : TypeInfo) (z : Value) (size bytes : Nat) (ht : P.underlying t = some (.slice e)) (hi : P.info? e = some i) (hz : i.zero = some z)
    (hsize : i.size = size) (hby : i.bytes = bytes) (hzs : z.cells.size = size) (hsz : 0 < size)
    (v : Value) (n : Nat) (xs : List Value) (hs : a.eval s = v) (hown : w.ownsRow base e size v n xs)
    (ad : Addr) (m c : Nat) (news : List Value) (hx : a.eval x = .slice (some ad) m c) (hl : news.length = m * size) (hnews : ∀ j u, news[j]? = some u → w.cell? (ad.add j) = some u) (h1 : ∀ u ∈ news, u.oneCell' = true)
    (h63 : n + m ≤ maxLen) (hbytes : (n + m) * bytes ≤ 140737488355328) (hbase : base ≤ w.heap.size)
    (h : ∀ v' w', w'.ownsRow base e size v' (n + m) (xs ++ news) → w.grownBy w' v.ownBlock → (∀ g, v'.ownBlock = some g → v.ownBlock = some g ∨ w.heap.size ≤ g) → wpList P ops Q rest (a.put o.dst v') w') : wpList P ops Q (o :: rest) a w :=
  wpList_plain hgd fun _ hK => by
    obtain ⟨v', w', hr, r1, r2, r3⟩ := run_append_ownX (P := P) w base t o.type e i z size bytes ht hi hz hsize hby hzs hsz v n xs hown ad m c news hl hnews h1 h63 hbytes hbase
    unfold Oper.wp execOp
    simp only [ho, resolve, invoke, builtin, Sem.run_bind, Sem.run_pure, Result.andThen_ok, List.map_toArray, List.map_cons, List.map_nil, hs, hx, hr]
    exact hK _ _ (h v' w' r1 r2 r3)

theorem step_append_own {P : Program} {ops : Array Oper} {o : Oper} {a : Act} {w : World} {K : Act → World → Prop} {Q : Exit → Act → World → Prop} {E : Prop}
    (hg : o.guard = none) (s x : Operand) (t : TypeId) (hop : o.op = Op.call { callee := Callee.builtin Builtin.append, args := #[s, x], argTypes := #[t, t] })
    (base : Nat) (e : TypeId) (i : TypeInfo) (z : Value) (size bytes : Nat) (h1 : P.underlying t = some (.slice e)) (h2 : P.info? e = some i) (h3 : i.zero = some z) (h4 : i.size = size) (h5 : i.bytes = bytes) (h6 : z.cells.size = size) (h7 : 0 < size)
    (v : Value) (n : Nat) (xs : List Value) (hs : a.eval s = v) (hown : w.ownsRow base e size v n xs)
    (ad : Addr) (m c : Nat) (news : List Value) (hx : a.eval x = .slice (some ad) m c) (hn : news.length = m * size) (hc : ∀ j u, news[j]? = some u → w.cell? (ad.add j) = some u) (h1c : ∀ u ∈ news, u.oneCell' = true)
    (b1 : n + m ≤ maxLen) (b2 : (n + m) * bytes ≤ 140737488355328) (hbase : base ≤ w.heap.size)
    (hK : ∀ v' w', w'.ownsRow base e size v' (n + m) (xs ++ news) → w.grownBy w' v.ownBlock → (∀ g, v'.ownBlock = some g → v.ownBlock = some g ∨ w.heap.size ≤ g) → K (a.put o.dst v') w') :
    if Region.wanted o (yielded ops a.tmps) = true then Oper.wp P o a w K Q else E := by
  have hw : Region.wanted o (yielded ops a.tmps) = true := by simp [Region.wanted, hg]
  rw [if_pos hw]
  obtain ⟨v', w', hrun, r1, r2, r3⟩ := run_append_ownX (P := P) w base t o.type e i z size bytes h1 h2 h3 h4 h5 h6 h7 v n xs hown ad m c news hn hc h1c b1 b2 hbase
  unfold Oper.wp
  simp [execOp, hop, resolve, invoke, builtin, hs, hx, hrun, Result.andThen]
  exact hK v' w' r1 r2 r3

theorem ownsRow_keep {F : Nat → Prop} {w w' : World} {B : Nat} {e : TypeId} {size : Nat} {v : Value} {n : Nat} {xs : List Value} (h : w.ownsRow B e size v n xs) (k : KeptF F w w') (hF : ∀ g, v.ownBlock = some g → ¬ F g) : w'.ownsRow B e size v n xs := by
  obtain ⟨h1, h2⟩ := h
  refine ⟨h1, ?_⟩
  rcases h2 with h2 | ⟨g, cap, cur, hv, hg, hh, r⟩
  · exact .inl h2
  · refine .inr ⟨g, cap, cur, hv, hg, ?_, r⟩
    have : g < w.heap.size := Blk.lt hh
    rw [k.block g this (hF g (by rw [hv]; rfl))]
    exact hh

def entC (e : Ent) : List Value := [.int .i64 e.it.t, .int .i64 e.it.f, .int .i64 e.it.s, .int .i64 e.it.l, .int .i64 e.r]
def entsC : List Ent → List Value
  | [] => []
  | e :: d => entC e ++ entsC d

theorem entsC_length : ∀ d : List Ent, (entsC d).length = d.length * 5
  | [] => rfl
  | e :: d => by simp only [entsC, List.length_append, entsC_length d, List.length_cons]; simp only [entC, List.length_cons, List.length_nil]; omega

theorem entsC_append : ∀ (d d' : List Ent), entsC (d ++ d') = entsC d ++ entsC d'
  | [], d' => rfl
  | e :: d, d' => by simp only [List.cons_append, entsC, entsC_append d d', List.append_assoc]

theorem entsC_get : ∀ (d : List Ent) (j : Nat) (e : Ent) (k : Nat), d[j]? = some e → k < 5 → (entsC d)[j * 5 + k]? = (entC e)[k]?
  | [], j, e, k, h, _ => by simp at h
  | a :: d, 0, e, k, h, hk => by
    simp only [List.getElem?_cons_zero, Option.some.injEq] at h
    subst h
    simp only [entsC, Nat.zero_mul, Nat.zero_add]
    rw [List.getElem?_append_left (by simp [entC]; omega)]
  | a :: d, j + 1, e, k, h, hk => by
    simp only [List.getElem?_cons_succ] at h
    simp only [entsC]
    rw [List.getElem?_append_right (by simp [entC]; omega)]
    have : (j + 1) * 5 + k - (entC a).length = j * 5 + k := by simp [entC]; omega
    rw [this]
    exact entsC_get d j e k h hk

theorem ERow.of_take {c : Array Value} {d : List Ent} (h : c.toList.take (d.length * 5) = entsC d) : ERow c d := by
  intro j e he
  have hj := get_lt he
  have key : ∀ k, k < 5 → c[j * 5 + k]? = (entC e)[k]? := by
    intro k hk
    rw [← entsC_get d j e k he hk, ← h, List.getElem?_take_of_lt (by omega)]
    simp
  exact ⟨key 0 (by omega), key 1 (by omega), key 2 (by omega), key 3 (by omega), key 4 (by omega)⟩

theorem ERow.take {c : Array Value} {d : List Ent} (h : ERow c d) (hs : d.length * 5 ≤ c.size) : c.toList.take (d.length * 5) = entsC d := by
  apply List.ext_getElem?
  intro o
  by_cases ho : o < d.length * 5
  · rw [List.getElem?_take_of_lt ho]
    obtain ⟨e, he⟩ := get_of_lt (d := d) (k := o / 5) (by omega)
    have hk : o % 5 < 5 := Nat.mod_lt _ (by omega)
    have ho' : o = o / 5 * 5 + o % 5 := by omega
    rw [ho', entsC_get d (o / 5) e (o % 5) he hk]
    obtain ⟨h0, h1, h2, h3, h4⟩ := h (o / 5) e he
    have : o % 5 = 0 ∨ o % 5 = 1 ∨ o % 5 = 2 ∨ o % 5 = 3 ∨ o % 5 = 4 := by omega
    rcases this with hr | hr | hr | hr | hr <;> rw [hr]
    · simpa [entC] using h0
    · simpa [entC] using h1
    · simpa [entC] using h2
    · simpa [entC] using h3
    · simpa [entC] using h4
  · rw [List.getElem?_eq_none (by simp; omega), List.getElem?_eq_none (by rw [entsC_length]; omega)]

/-- A slice value that owns its row of entries, its block from B on. -/
def ESl (w : World) (B : Nat) (v : Value) (d : List Ent) : Prop := w.ownsRow B 160 5 v d.length (entsC d)

theorem ESl.nil (w : World) (B : Nat) : ESl w B (.slice none 0 0) [] := World.ownsRow_nil w B _ _

theorem ESl.cases {w : World} {B : Nat} {v : Value} {d : List Ent} (h : ESl w B v d) :
    (v = .slice none 0 0 ∧ d = []) ∨ ∃ g cap, v = .slice (some ⟨g, 0, none⟩) d.length cap ∧ B ≤ g ∧ cap ≤ maxLen ∧ EArr w g 160 cap d := by
  obtain ⟨h1, h2⟩ := h
  rcases h2 with ⟨h2, h3⟩ | ⟨g, cap, cur, hv, hB, hg, hn, hm, hs, ht⟩
  · exact .inl ⟨h2, List.eq_nil_of_length_eq_zero h3⟩
  · exact .inr ⟨g, cap, hv, hB, hm, ⟨⟨cur, hg, hs, ERow.of_take ht⟩, hn⟩⟩

theorem ESl.mk {w : World} {B g cap : Nat} {d : List Ent} (hB : B ≤ g) (hm : cap ≤ maxLen) (h : EArr w g 160 cap d) : ESl w B (.slice (some ⟨g, 0, none⟩) d.length cap) d := by
  obtain ⟨c, h1, h2, h3⟩ := h.ex
  exact ⟨entsC_length d, .inr ⟨g, cap, c, rfl, hB, h1, h.fits, hm, h2, h3.take (by have := h.fits; omega)⟩⟩

def dayC (d : List Dy) : List Value := d.map fun e => .pointer (some ⟨e.kb, 0, none⟩)
def DSl (w : World) (B : Nat) (v : Value) (d : List Dy) : Prop := w.ownsRow B 156 1 v d.length (dayC d)

theorem DSl.nil (w : World) (B : Nat) : DSl w B (.slice none 0 0) [] := World.ownsRow_nil w B _ _

theorem DSl.cases {w : World} {B : Nat} {v : Value} {d : List Dy} (h : DSl w B v d) :
    (v = .slice none 0 0 ∧ d = []) ∨ ∃ g cap, v = .slice (some ⟨g, 0, none⟩) d.length cap ∧ B ≤ g ∧ cap ≤ maxLen ∧ DArr w g 156 cap d := by
  obtain ⟨h1, h2⟩ := h
  rcases h2 with ⟨h2, h3⟩ | ⟨g, cap, cur, hv, hB, hg, hn, hm, hs, ht⟩
  · exact .inl ⟨h2, List.eq_nil_of_length_eq_zero h3⟩
  · refine .inr ⟨g, cap, hv, hB, hm, ⟨⟨cur, hg, by simpa using hs, fun j e he => ?_⟩, hn⟩⟩
    have hj := get_lt he
    have h3 : (dayC d)[j]? = some (.pointer (some ⟨e.kb, 0, none⟩)) := by simp [dayC, he]
    rw [← ht, List.getElem?_take_of_lt (by omega)] at h3
    simpa using h3

theorem DSl.mk {w : World} {B g cap : Nat} {d : List Dy} (hB : B ≤ g) (hm : cap ≤ maxLen) (h : DArr w g 156 cap d) : DSl w B (.slice (some ⟨g, 0, none⟩) d.length cap) d := by
  obtain ⟨c, h1, h2, h3⟩ := h.ex
  refine ⟨by simp [dayC], .inr ⟨g, cap, c, rfl, hB, h1, h.fits, hm, by omega, ?_⟩⟩
  apply List.ext_getElem?
  intro o
  by_cases ho : o < d.length
  · rw [List.getElem?_take_of_lt (by omega)]
    obtain ⟨e, he⟩ := get_of_lt ho
    have := h3 o e he
    simp [dayC, he]
    simpa using this
  · rw [List.getElem?_eq_none (by simp; omega), List.getElem?_eq_none (by simp [dayC]; omega)]

theorem KeptF.of_grown {F : Nat → Prop} {w w' : World} {row : Option Nat} (h : w.grownBy w' row) (hr : ∀ k, row = some k → k < w.heap.size → F k) : KeptF F w w' :=
  ⟨h.os, h.tape, h.output, h.size, fun k hk hF => h.block k hk (fun e => hF (hr k e.symm hk))⟩

end Go.Proofs.Ytbpaigpjffdcbaa
