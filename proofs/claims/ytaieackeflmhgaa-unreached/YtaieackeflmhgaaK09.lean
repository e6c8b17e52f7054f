/-
  Rows of one's own, of whatever is encoded in a fixed number of cells.
-/
import Derived.Test.YtaieackeflmhgaaK07
import Derived.Test.YtaieackeflmhgaaK08
namespace Go.Proofs.Ytaieackeflmhgaa
open Go.RowKit Go.Sort Go.Maps

structure Enc (α : Type) where
  sz : Nat
  T : TypeId
  enc : α → List Value
  len : ∀ x, (enc x).length = sz
  pos : 0 < sz
  one : ∀ x, ∀ u ∈ enc x, u.oneCell' = true

variable {α : Type}

def flat (E : Enc α) : List α → List Value
  | [] => []
  | x :: l => E.enc x ++ flat E l

theorem flat_length (E : Enc α) : ∀ l : List α, (flat E l).length = l.length * E.sz
  | [] => by simp [flat]
  | x :: l => by simp only [flat, List.length_append, flat_length E l, List.length_cons, E.len, Nat.add_mul]; omega
theorem flat_append (E : Enc α) : ∀ (l l' : List α), flat E (l ++ l') = flat E l ++ flat E l'
  | [], l' => rfl
  | x :: l, l' => by simp only [List.cons_append, flat, flat_append E l l', List.append_assoc]
theorem flat_get (E : Enc α) : ∀ (l : List α) (j : Nat) (x : α) (k : Nat), l[j]? = some x → k < E.sz → (flat E l)[j * E.sz + k]? = (E.enc x)[k]?
  | [], j, x, k, h, _ => by simp at h
  | a :: l, 0, x, k, h, hk => by
    simp only [List.getElem?_cons_zero, Option.some.injEq] at h
    subst h
    simp only [flat, Nat.zero_mul, Nat.zero_add]
    rw [List.getElem?_append_left (by rw [E.len]; exact hk)]
  | a :: l, j + 1, x, k, h, hk => by
    simp only [List.getElem?_cons_succ] at h
    simp only [flat]
    have e : (j + 1) * E.sz = E.sz + j * E.sz := by rw [Nat.add_mul]; omega
    rw [List.getElem?_append_right (by rw [E.len, e]; omega)]
    have : (j + 1) * E.sz + k - (E.enc a).length = j * E.sz + k := by rw [E.len, e]; omega
    rw [this]
    exact flat_get E l j x k h hk
theorem flat_one (E : Enc α) : ∀ (l : List α), ∀ u ∈ flat E l, u.oneCell' = true
  | [], u, h => by simp [flat] at h
  | x :: l, u, h => by
    simp only [flat, List.mem_append] at h
    rcases h with h | h
    · exact E.one x u h
    · exact flat_one E l u h
theorem flat_take (E : Enc α) (l : List α) (n : Nat) : flat E (l.take n) = (flat E l).take (n * E.sz) := by
  induction l generalizing n with
  | nil => simp [flat]
  | cons a l ih =>
    cases n with
    | zero => simp [flat]
    | succ n =>
      simp only [List.take_succ_cons, flat, ih]
      rw [List.take_append, E.len, List.take_of_length_le (l := E.enc a) (by rw [E.len, Nat.add_mul]; omega)]
      have : (n + 1) * E.sz - E.sz = n * E.sz := by rw [Nat.add_mul]; omega
      rw [this]
theorem flat_drop (E : Enc α) (l : List α) (n : Nat) : flat E (l.drop n) = (flat E l).drop (n * E.sz) := by
  induction l generalizing n with
  | nil => simp [flat]
  | cons a l ih =>
    cases n with
    | zero => simp [flat]
    | succ n =>
      simp only [List.drop_succ_cons, flat, ih]
      rw [List.drop_append, E.len, List.drop_of_length_le (l := E.enc a) (by rw [E.len, Nat.add_mul]; omega), List.nil_append]
      have : (n + 1) * E.sz - E.sz = n * E.sz := by rw [Nat.add_mul]; omega
      rw [this]

def Own (E : Enc α) (w : World) (B : Nat) (v : Value) (l : List α) : Prop := w.ownsRow B E.T E.sz v l.length (flat E l)

theorem Own.nil (E : Enc α) (w : World) (B : Nat) : Own E w B (.slice none 0 0) [] := World.ownsRow_nil w B _ _
theorem Own.keep {E : Enc α} {F : Nat → Prop} {w w' : World} {B : Nat} {v : Value} {l : List α} (h : Own E w B v l) (k : KeptF F w w') (hF : ∀ g, v.ownBlock = some g → ¬ F g) : Own E w' B v l := ownsRow_keep h k hF
theorem Own.mono {E : Enc α} {w : World} {B B' : Nat} {v : Value} {l : List α} (h : Own E w B v l) (hB : B' ≤ B) : Own E w B' v l := World.ownsRow_mono h hB
theorem Own.form {E : Enc α} {w : World} {B : Nat} {v : Value} {l : List α} (h : Own E w B v l) : (v = .slice none 0 0 ∧ l = []) ∨ ∃ g cap, v = .slice (some ⟨g, 0, none⟩) l.length cap ∧ l.length ≤ cap := by
  rcases h.2 with ⟨h1, h2⟩ | ⟨g, cap, cur, h1, _, _, h3, _⟩
  · exact .inl ⟨h1, List.eq_nil_of_length_eq_zero h2⟩
  · exact .inr ⟨g, cap, h1, h3⟩
theorem Own.form' {E : Enc α} {w : World} {B : Nat} {v : Value} {l : List α} (h : Own E w B v l) : ∃ ao cap, v = .slice ao l.length cap ∧ l.length ≤ cap := by
  rcases h.form with ⟨h1, h2⟩ | ⟨g, cap, h1, h2⟩
  · subst h2; exact ⟨none, 0, h1, Nat.le_refl _⟩
  · exact ⟨_, _, h1, h2⟩
theorem Own.cell {E : Enc α} {w : World} {B : Nat} {g : Nat} {len cap : Nat} {l : List α} (h : Own E w B (.slice (some ⟨g, 0, none⟩) len cap) l) {j : Nat} {x : α} (hx : l[j]? = some x) {k : Nat} {u : Value} (hu : (E.enc x)[k]? = some u) :
    w.cell? ⟨g, j * E.sz + k, none⟩ = some u := by
  have hj := get_lt hx
  have hk : k < E.sz := by have := get_lt hu; rw [E.len] at this; exact this
  have hlen : len = l.length := by
    rcases h.form with ⟨h1, _⟩ | ⟨g', cap', h1, _⟩
    · cases h1
    · cases h1; rfl
  subst hlen
  have hle : j * E.sz + k < l.length * E.sz := by
    have : (j + 1) * E.sz ≤ l.length * E.sz := Nat.mul_le_mul_right _ hj
    rw [Nat.add_mul] at this; omega
  rw [World.ownsRow.cellAt h (j * E.sz + k) hle, flat_get E l j x k hx hk, hu]
theorem Own.cellAt {E : Enc α} {w : World} {B g len cap : Nat} {l : List α} (h : Own E w B (.slice (some ⟨g, 0, none⟩) len cap) l) (o : Nat) (ho : o < l.length * E.sz) : w.cell? ⟨g, o, none⟩ = (flat E l)[o]? := by
  have hlen : len = l.length := by
    rcases h.form with ⟨h1, _⟩ | ⟨g', cap', h1, _⟩
    · cases h1
    · cases h1; rfl
  subst hlen
  exact World.ownsRow.cellAt h o ho
theorem Own.takeCells {E : Enc α} {w : World} {B g len cap : Nat} {l : List α} (h : Own E w B (.slice (some ⟨g, 0, none⟩) len cap) l) (j : Nat) (hj : j ≤ l.length) : ∀ o u, (flat E (l.take j))[o]? = some u → w.cell? ((⟨g, 0, none⟩ : Addr).add o) = some u := by
  intro o u hu
  have ho := get_lt hu
  rw [flat_length, List.length_take, Nat.min_eq_left hj] at ho
  rw [flat_take, List.getElem?_take_of_lt ho] at hu
  have ha : ((⟨g, 0, none⟩ : Addr).add o) = ⟨g, o, none⟩ := by simp [Addr.add]; omega
  have h2 : j * E.sz ≤ l.length * E.sz := Nat.mul_le_mul_right _ hj
  rw [ha, h.cellAt o (by omega)]
  exact hu
theorem Own.dropCells {E : Enc α} {w : World} {B g len cap : Nat} {l : List α} (h : Own E w B (.slice (some ⟨g, 0, none⟩) len cap) l) (j k : Nat) (hk : k = j * E.sz) : ∀ o u, (flat E (l.drop j))[o]? = some u → w.cell? ((⟨g, k, none⟩ : Addr).add o) = some u := by
  intro o u hu
  subst hk
  have ho := get_lt hu
  rw [flat_length, List.length_drop, Nat.sub_mul] at ho
  rw [flat_drop, List.getElem?_drop] at hu
  have ha : ((⟨g, j * E.sz, none⟩ : Addr).add o) = ⟨g, j * E.sz + o, none⟩ := by simp [Addr.add]
  rw [ha, h.cellAt _ (by omega)]
  exact hu
theorem Own.at_ {E : Enc α} {w : World} {B : Nat} {v : Value} {l : List α} (h : Own E w B v l) {j : Nat} {x : α} (hx : l[j]? = some x) : ∃ g cap, v = .slice (some ⟨g, 0, none⟩) l.length cap ∧ l.length ≤ cap := by
  rcases h.form with ⟨_, h2⟩ | h
  · rw [h2] at hx; simp at hx
  · exact h
theorem Own.lt {E : Enc α} {w : World} {B : Nat} {v : Value} {l : List α} (h : Own E w B v l) {g : Nat} (hg : v.ownBlock = some g) : B ≤ g ∧ g < w.heap.size := World.ownsRow.lt h g hg

theorem Own.snoc {E : Enc α} {w : World} {B : Nat} {v : Value} {l : List α} {x : α} (h : w.ownsRow B E.T E.sz v (l.length + 1) (flat E l ++ E.enc x)) : Own E w B v (l ++ [x]) := by
  unfold Own
  rw [flat_append, List.length_append]
  have : flat E [x] = E.enc x := by simp [flat]
  rw [this]
  exact h
theorem newCells (W : World) (l : List Value) (T : TypeId) : ∀ j u, l[j]? = some u → ((W.alloc (.cells l.toArray T)).drew).cell? ((⟨W.heap.size, 0, none⟩ : Addr).add j) = some u := by
  intro j u hu
  have hb : Blk (W.alloc (.cells l.toArray T)).drew W.heap.size l.toArray T := heap_alloc_new W _
  have ha : ((⟨W.heap.size, 0, none⟩ : Addr).add j) = ⟨W.heap.size, j, none⟩ := by simp [Addr.add]; omega
  rw [ha, hb.cell, ← hu]
  simp
theorem set_same {l : List α} {p : Nat} {v : α} (h : l[p]? = some v) : l.set p v = l := by
  apply List.ext_getElem?
  intro i
  by_cases e : i = p
  · subst e
    rw [List.getElem?_set_self (get_lt h), h]
  · rw [List.getElem?_set_ne (by omega)]
/-- worlds in which all cells of w stand as they did, but for one block's and one cell -/
def Sp (w : World) (b0 o0 : Nat) (own : Option Nat) (W : World) : Prop := w.heap.size ≤ W.heap.size ∧ ∀ b o, b < w.heap.size → own ≠ some b → ¬ (b = b0 ∧ o = o0) → W.cell? ⟨b, o, none⟩ = w.cell? ⟨b, o, none⟩
theorem Sp.cell {w : World} {b0 o0 : Nat} {own : Option Nat} {b o : Nat} {v : Value} (hc : w.cell? ⟨b, o, none⟩ = some v) (h1 : own ≠ some b) (h2 : ¬ (b = b0 ∧ o = o0)) : ∀ W, Sp w b0 o0 own W → W.cell? ⟨b, o, none⟩ = some v := by
  intro W h
  rw [h.2 b o (block_lt_of_cell hc) h1 h2]; exact hc
theorem Sp.of_kept {w W : World} {b0 o0 : Nat} {own : Option Nat} (h : KeptF (fun k => own = some k) w W) : Sp w b0 o0 own W :=
  ⟨h.size, fun b o hb h1 _ => h.cell (p := ⟨b, o, none⟩) hb (fun e => h1 e)⟩
theorem Sp.set {w W : World} {b0 o0 : Nat} {own : Option Nat} (h : Sp w b0 o0 own W) (v : Value) : Sp w b0 o0 own (W.setCell ⟨b0, o0, none⟩ v) := by
  refine ⟨by have := h.1; simp [World.setCell]; exact this, fun b o hb h1 h2 => ?_⟩
  rw [← h.2 b o hb h1 h2]
  by_cases e : b = b0
  · subst e
    have ho : o ≠ o0 := fun e => h2 ⟨rfl, e⟩
    apply World.cell?_setCell_other
    intro e; cases e; exact ho rfl
  · exact World.cell?_of_block (Below.heap_setCell W ⟨b0, o0, none⟩ v b e)
theorem Sp.drew {w W : World} {b0 o0 : Nat} {own : Option Nat} (h : Sp w b0 o0 own W) : Sp w b0 o0 own W.drew := h

def evC (e : Ev) : List Value := [.int .i64 e.it.t, .int .i64 e.it.f, .int .i64 e.it.s, .int .i64 e.it.l, .int .i64 e.p, .int .i64 e.c]
def dnC (e : Dn) : List Value := [.int .i64 e.it.t, .int .i64 e.it.f, .int .i64 e.it.s, .int .i64 e.it.l, .int .i64 e.st]
def evE : Enc Ev := ⟨6, 162, evC, fun _ => rfl, by omega, fun x u hu => by
  simp only [evC, List.mem_cons, List.not_mem_nil, or_false] at hu
  rcases hu with rfl | rfl | rfl | rfl | rfl | rfl <;> rfl⟩
def dnE : Enc Dn := ⟨5, 136, dnC, fun _ => rfl, by omega, fun x u hu => by
  simp only [dnC, List.mem_cons, List.not_mem_nil, or_false] at hu
  rcases hu with rfl | rfl | rfl | rfl | rfl <;> rfl⟩
def inE : Enc Int := ⟨1, 3, fun x => [.int .i64 x], fun _ => rfl, by omega, fun x u hu => by
  simp only [List.mem_cons, List.not_mem_nil, or_false] at hu
  subst hu; rfl⟩

/-- the places of a course in memory -/
structure Ix where
  n : Nat
  p : Nat
abbrev Ix.c : Ix := ⟨0, 0⟩
abbrev Ix.w : Ix := ⟨1, 0⟩
abbrev Ix.s : Ix := ⟨2, 0⟩
abbrev Ix.q : Ix := ⟨3, 0⟩
abbrev Ix.d : Ix := ⟨4, 0⟩
abbrev Ix.k : Ix := ⟨5, 0⟩
abbrev Ix.dn (p : Nat) : Ix := ⟨6, p⟩
abbrev Ix.ca (p : Nat) : Ix := ⟨7, p⟩

def ownOf (o : Option Value) : Option Nat := match o with
  | some v => v.ownBlock
  | none => none

def owner (cb sb qb db kb : Nat) (wv : Value) (D C : List Value) : Ix → Option Nat
  | ⟨0, 0⟩ => some cb
  | ⟨1, 0⟩ => wv.ownBlock
  | ⟨2, 0⟩ => some sb
  | ⟨3, 0⟩ => some qb
  | ⟨4, 0⟩ => some db
  | ⟨5, 0⟩ => some kb
  | ⟨6, p⟩ => ownOf D[p]?
  | ⟨7, p⟩ => ownOf C[p]?
  | _ => none

def Dist (o : Ix → Option Nat) : Prop := ∀ i j g, o i = some g → o j = some g → i = j

theorem Dist.turn {o o' : Ix → Option Nat} {N : Nat} (h : Dist o) (i : Ix) (hlt : ∀ j g, o j = some g → g < N) (hs : ∀ j, j ≠ i → o' j = o j) (hi : ∀ g, o' i = some g → o i = some g ∨ N ≤ g) : Dist o' := by
  have key : ∀ j g, o' j = some g → o j = some g ∨ (j = i ∧ N ≤ g) := by
    intro j g hj
    by_cases e : j = i
    · subst e
      rcases hi g hj with h1 | h1
      · exact .inl h1
      · exact .inr ⟨rfl, h1⟩
    · rw [hs j e] at hj; exact .inl hj
  intro a b g ha hb
  rcases key a g ha with h1 | ⟨h1, h1'⟩
  · rcases key b g hb with h2 | ⟨h2, h2'⟩
    · exact h a b g h1 h2
    · have := hlt a g h1; omega
  · rcases key b g hb with h2 | ⟨h2, h2'⟩
    · have := hlt b g h2; omega
    · rw [h1, h2]

def ints (l : List Int) : Array Value := (l.map fun x => Value.int .i64 x).toArray

theorem ints_get {l : List Int} {j : Nat} {x : Int} (h : l[j]? = some x) : (ints l)[j]? = some (.int .i64 x) := by
  simp [ints, h]
theorem ints_set (l : List Int) (j : Nat) (x : Int) : (ints l).setIfInBounds j (.int .i64 x) = ints (l.set j x) := by
  simp [ints, List.map_set]

structure CAt (w : World) (B cb : Nat) (lv rv sv : Value) (m : Mdl) (wv : Value) (sb qb db kb : Nat) (D C : List Value) (c : Cs) : Prop where
  blk : Blk w cb #[.int .i64 m.procs, .int .i64 m.states, .int .i64 m.loads, lv, rv, sv, wv, .slice (some ⟨sb, 0, none⟩) (np m) (np m), .slice (some ⟨qb, 0, none⟩) (np m) (np m), .slice (some ⟨db, 0, none⟩) (np m) (np m), .slice (some ⟨kb, 0, none⟩) (np m) (np m), .int .i64 c.all] 66
  wait : Own evE w B wv c.wait
  st : Blk w sb (ints c.states) 3
  sq : Blk w qb (ints c.seqs) 3
  dn : Blk w db D.toArray 61
  ca : Blk w kb C.toArray 55
  dl : D.length = np m
  cl : C.length = np m
  dns : ∀ (p : Nat) (v : Value) (l : List Dn), D[p]? = some v → c.done[p]? = some l → Own dnE w B v l
  cas : ∀ (p : Nat) (v : Value) (l : List Int), C[p]? = some v → c.causes[p]? = some l → Own inE w B v l
  lc : B ≤ cb
  ls : B ≤ sb
  lq : B ≤ qb
  ld : B ≤ db
  lk : B ≤ kb
  nd : c.done.length = np m
  nc : c.causes.length = np m
  dist : Dist (owner cb sb qb db kb wv D C)

section
variable {w w' : World} {B cb : Nat} {lv rv sv : Value} {m : Mdl} {wv : Value} {sb qb db kb : Nat} {D C : List Value} {c : Cs}

theorem CAt.lt (h : CAt w B cb lv rv sv m wv sb qb db kb D C c) {i : Ix} {g : Nat} (hg : owner cb sb qb db kb wv D C i = some g) : B ≤ g ∧ g < w.heap.size := by
  unfold owner at hg
  split at hg
  · cases hg; exact ⟨h.lc, h.blk.lt⟩
  · exact h.wait.lt hg
  · cases hg; exact ⟨h.ls, h.st.lt⟩
  · cases hg; exact ⟨h.lq, h.sq.lt⟩
  · cases hg; exact ⟨h.ld, h.dn.lt⟩
  · cases hg; exact ⟨h.lk, h.ca.lt⟩
  · rename_i p
    cases hv : D[p]? with
    | none => rw [hv] at hg; cases hg
    | some v =>
      rw [hv] at hg
      obtain ⟨l, hl⟩ := get_of_lt (d := c.done) (k := p) (by rw [h.nd, ← h.dl]; exact get_lt hv)
      exact (h.dns p v l hv hl).lt hg
  · rename_i p
    cases hv : C[p]? with
    | none => rw [hv] at hg; cases hg
    | some v =>
      rw [hv] at hg
      obtain ⟨l, hl⟩ := get_of_lt (d := c.causes) (k := p) (by rw [h.nc, ← h.cl]; exact get_lt hv)
      exact (h.cas p v l hv hl).lt hg
  · cases hg

/-- the blocks of some places -/
def Touch (o : Ix → Option Nat) (S : Ix → Prop) (k : Nat) : Prop := ∃ i, S i ∧ o i = some k

theorem Dist.not_touch {o : Ix → Option Nat} {S : Ix → Prop} (h : Dist o) {i : Ix} {g : Nat} (hi : ¬ S i) (hg : o i = some g) : ¬ Touch o S g := by
  rintro ⟨j, hj, hgj⟩
  exact hi (h i j g hg hgj ▸ hj)

theorem own_dn {p : Nat} {v : Value} (h : D[p]? = some v) : owner cb sb qb db kb wv D C (.dn p) = v.ownBlock := by simp [owner, ownOf, h]
theorem own_ca {p : Nat} {v : Value} (h : C[p]? = some v) : owner cb sb qb db kb wv D C (.ca p) = v.ownBlock := by simp [owner, ownOf, h]

theorem CAt.grow (h : CAt w B cb lv rv sv m wv sb qb db kb D C c) (k : KeptF (fun _ => False) w w') : CAt w' B cb lv rv sv m wv sb qb db kb D C c :=
  ⟨h.blk.keep k (fun e => e), h.wait.keep k (fun _ _ e => e), h.st.keep k (fun e => e), h.sq.keep k (fun e => e), h.dn.keep k (fun e => e), h.ca.keep k (fun e => e), h.dl, h.cl,
   fun p v l h1 h2 => (h.dns p v l h1 h2).keep k (fun _ _ e => e), fun p v l h1 h2 => (h.cas p v l h1 h2).keep k (fun _ _ e => e), h.lc, h.ls, h.lq, h.ld, h.lk, h.nd, h.nc, h.dist⟩

/-- a new row of events that wait -/
theorem CAt.newWait (h : CAt w B cb lv rv sv m wv sb qb db kb D C c) {wv' : Value} {l' : List Ev} (k : KeptF (Touch (owner cb sb qb db kb wv D C) (fun i => i = .c ∨ i = .w)) w w')
    (hb : Blk w' cb #[.int .i64 m.procs, .int .i64 m.states, .int .i64 m.loads, lv, rv, sv, wv', .slice (some ⟨sb, 0, none⟩) (np m) (np m), .slice (some ⟨qb, 0, none⟩) (np m) (np m), .slice (some ⟨db, 0, none⟩) (np m) (np m), .slice (some ⟨kb, 0, none⟩) (np m) (np m), .int .i64 c.all] 66)
    (ho : Own evE w' B wv' l') (hf : ∀ g, wv'.ownBlock = some g → wv.ownBlock = some g ∨ w.heap.size ≤ g) :
    CAt w' B cb lv rv sv m wv' sb qb db kb D C { c with wait := l' } := by
  have nt : ∀ i g, i ≠ .c → i ≠ .w → owner cb sb qb db kb wv D C i = some g → ¬ Touch (owner cb sb qb db kb wv D C) (fun i => i = .c ∨ i = .w) g :=
    fun i g h1 h2 hg => h.dist.not_touch (by rintro (e | e); exact h1 e; exact h2 e) hg
  refine ⟨hb, ho, h.st.keep k (nt .s _ (by simp) (by simp) rfl), h.sq.keep k (nt .q _ (by simp) (by simp) rfl), h.dn.keep k (nt .d _ (by simp) (by simp) rfl), h.ca.keep k (nt .k _ (by simp) (by simp) rfl), h.dl, h.cl,
   fun p v l h1 h2 => (h.dns p v l h1 h2).keep k (fun g hg => nt (.dn p) g (by simp) (by simp) ((own_dn h1).trans hg)), fun p v l h1 h2 => (h.cas p v l h1 h2).keep k (fun g hg => nt (.ca p) g (by simp) (by simp) ((own_ca h1).trans hg)), h.lc, h.ls, h.lq, h.ld, h.lk, h.nd, h.nc, ?_⟩
  exact h.dist.turn .w (fun j g hj => (h.lt hj).2) (fun j hj => by unfold owner; split <;> first | rfl | exact absurd rfl hj) hf

/-- a state is stored -/
theorem CAt.setSt (h : CAt w B cb lv rv sv m wv sb qb db kb D C c) (p : Nat) (x : Int) : CAt (w.setCell ⟨sb, p, none⟩ (.int .i64 x)) B cb lv rv sv m wv sb qb db kb D C { c with states := c.states.set p x } ∧ KeptF (Touch (owner cb sb qb db kb wv D C) (fun i => i = .s)) w (w.setCell ⟨sb, p, none⟩ (.int .i64 x)) := by
  have k : KeptF (Touch (owner cb sb qb db kb wv D C) (fun i => i = .s)) w (w.setCell ⟨sb, p, none⟩ (.int .i64 x)) := (KeptF.refl _ w).setCell (p := ⟨sb, p, none⟩) (.inl ⟨.s, rfl, rfl⟩) _
  have nt : ∀ i g, i ≠ .s → owner cb sb qb db kb wv D C i = some g → ¬ Touch (owner cb sb qb db kb wv D C) (fun i => i = .s) g :=
    fun i g h1 hg => h.dist.not_touch h1 hg
  have hs := h.st.set p (.int .i64 x)
  rw [ints_set] at hs
  exact ⟨⟨h.blk.keep k (nt .c _ (by simp) rfl), h.wait.keep k (fun g hg => nt .w g (by simp) hg), hs, h.sq.keep k (nt .q _ (by simp) rfl), h.dn.keep k (nt .d _ (by simp) rfl), h.ca.keep k (nt .k _ (by simp) rfl), h.dl, h.cl,
   fun p v l h1 h2 => (h.dns p v l h1 h2).keep k (fun g hg => nt (.dn p) g (by simp) ((own_dn h1).trans hg)), fun p v l h1 h2 => (h.cas p v l h1 h2).keep k (fun g hg => nt (.ca p) g (by simp) ((own_ca h1).trans hg)), h.lc, h.ls, h.lq, h.ld, h.lk, h.nd, h.nc, h.dist⟩, k⟩

/-- a process's next Seq is stored -/
theorem CAt.setSq (h : CAt w B cb lv rv sv m wv sb qb db kb D C c) (p : Nat) (x : Int) : CAt (w.setCell ⟨qb, p, none⟩ (.int .i64 x)) B cb lv rv sv m wv sb qb db kb D C { c with seqs := c.seqs.set p x } ∧ KeptF (Touch (owner cb sb qb db kb wv D C) (fun i => i = .q)) w (w.setCell ⟨qb, p, none⟩ (.int .i64 x)) := by
  have k : KeptF (Touch (owner cb sb qb db kb wv D C) (fun i => i = .q)) w (w.setCell ⟨qb, p, none⟩ (.int .i64 x)) := (KeptF.refl _ w).setCell (p := ⟨qb, p, none⟩) (.inl ⟨.q, rfl, rfl⟩) _
  have nt : ∀ i g, i ≠ .q → owner cb sb qb db kb wv D C i = some g → ¬ Touch (owner cb sb qb db kb wv D C) (fun i => i = .q) g :=
    fun i g h1 hg => h.dist.not_touch h1 hg
  have hs := h.sq.set p (.int .i64 x)
  rw [ints_set] at hs
  exact ⟨⟨h.blk.keep k (nt .c _ (by simp) rfl), h.wait.keep k (fun g hg => nt .w g (by simp) hg), h.st.keep k (nt .s _ (by simp) rfl), hs, h.dn.keep k (nt .d _ (by simp) rfl), h.ca.keep k (nt .k _ (by simp) rfl), h.dl, h.cl,
   fun p v l h1 h2 => (h.dns p v l h1 h2).keep k (fun g hg => nt (.dn p) g (by simp) ((own_dn h1).trans hg)), fun p v l h1 h2 => (h.cas p v l h1 h2).keep k (fun g hg => nt (.ca p) g (by simp) ((own_ca h1).trans hg)), h.lc, h.ls, h.lq, h.ld, h.lk, h.nd, h.nc, h.dist⟩, k⟩

theorem CAt.setAll (h : CAt w B cb lv rv sv m wv sb qb db kb D C c) (n : Nat) : CAt (w.setCell ⟨cb, 11, none⟩ (.int .i64 n)) B cb lv rv sv m wv sb qb db kb D C { c with all := n } ∧ KeptF (Touch (owner cb sb qb db kb wv D C) (fun i => i = .c)) w (w.setCell ⟨cb, 11, none⟩ (.int .i64 n)) := by
  have k : KeptF (Touch (owner cb sb qb db kb wv D C) (fun i => i = .c)) w (w.setCell ⟨cb, 11, none⟩ (.int .i64 n)) := (KeptF.refl _ w).setCell (p := ⟨cb, 11, none⟩) (.inl ⟨.c, rfl, rfl⟩) _
  have nt : ∀ i g, i ≠ .c → owner cb sb qb db kb wv D C i = some g → ¬ Touch (owner cb sb qb db kb wv D C) (fun i => i = .c) g :=
    fun i g h1 hg => h.dist.not_touch h1 hg
  have hs := h.blk.set 11 (.int .i64 n)
  exact ⟨⟨hs, h.wait.keep k (fun g hg => nt .w g (by simp) hg), h.st.keep k (nt .s _ (by simp) rfl), h.sq.keep k (nt .q _ (by simp) rfl), h.dn.keep k (nt .d _ (by simp) rfl), h.ca.keep k (nt .k _ (by simp) rfl), h.dl, h.cl,
   fun p v l h1 h2 => (h.dns p v l h1 h2).keep k (fun g hg => nt (.dn p) g (by simp) ((own_dn h1).trans hg)), fun p v l h1 h2 => (h.cas p v l h1 h2).keep k (fun g hg => nt (.ca p) g (by simp) ((own_ca h1).trans hg)), h.lc, h.ls, h.lq, h.ld, h.lk, h.nd, h.nc, h.dist⟩, k⟩

theorem set_toArray (D : List Value) (p : Nat) (v : Value) : D.toArray.setIfInBounds p v = (D.set p v).toArray := by simp

/-- a process's row of what was done turns -/
theorem CAt.newDone (h : CAt w B cb lv rv sv m wv sb qb db kb D C c) {p : Nat} {v v' : Value} {l' : List Dn} (hv : D[p]? = some v) (k : KeptF (Touch (owner cb sb qb db kb wv D C) (fun i => i = .d ∨ i = .dn p)) w w')
    (hb : Blk w' db (D.set p v').toArray 61) (ho : Own dnE w' B v' l') (hf : ∀ g, v'.ownBlock = some g → v.ownBlock = some g ∨ w.heap.size ≤ g) :
    CAt w' B cb lv rv sv m wv sb qb db kb (D.set p v') C { c with done := c.done.set p l' } := by
  have nt : ∀ i g, i ≠ .d → i ≠ .dn p → owner cb sb qb db kb wv D C i = some g → ¬ Touch (owner cb sb qb db kb wv D C) (fun i => i = .d ∨ i = .dn p) g :=
    fun i g h1 h2 hg => h.dist.not_touch (by rintro (e | e); exact h1 e; exact h2 e) hg
  have hp := get_lt hv
  refine ⟨h.blk.keep k (nt .c _ (by simp) (by simp) rfl), h.wait.keep k (fun g hg => nt .w g (by simp) (by simp) hg), h.st.keep k (nt .s _ (by simp) (by simp) rfl), h.sq.keep k (nt .q _ (by simp) (by simp) rfl), hb, h.ca.keep k (nt .k _ (by simp) (by simp) rfl), by simp [h.dl], h.cl,
   fun q u l h1 h2 => ?_, fun p v l h1 h2 => (h.cas p v l h1 h2).keep k (fun g hg => nt (.ca p) g (by simp) (by simp) ((own_ca h1).trans hg)), h.lc, h.ls, h.lq, h.ld, h.lk, by simp [h.nd], h.nc, ?_⟩
  · rcases set_get h1 with ⟨e1, e2⟩ | ⟨e1, e2⟩
    · rcases set_get h2 with ⟨e3, e4⟩ | ⟨e3, _⟩
      · rw [e2, e4]; exact ho
      · exact absurd e1 e3
    · rcases set_get h2 with ⟨e3, _⟩ | ⟨_, e4⟩
      · exact absurd e3 e1
      · exact (h.dns q u l e2 e4).keep k (fun g hg => nt (.dn q) g (by simp) (by simp [e1]) ((own_dn e2).trans hg))
  · refine h.dist.turn (.dn p) (fun j g hj => (h.lt hj).2) (fun j hj => ?_) (fun g hg => ?_)
    · unfold owner
      split <;> first | rfl | skip
      rename_i q
      have : q ≠ p := fun e => hj (by rw [e])
      rw [List.getElem?_set_ne (by omega)]
    · rw [own_dn (v := v') (by rw [List.getElem?_set_self hp])] at hg
      rw [own_dn hv]
      exact hf g hg

theorem CAt.newCause (h : CAt w B cb lv rv sv m wv sb qb db kb D C c) {p : Nat} {v v' : Value} {l' : List Int} (hv : C[p]? = some v) (k : KeptF (Touch (owner cb sb qb db kb wv D C) (fun i => i = .k ∨ i = .ca p)) w w')
    (hb : Blk w' kb (C.set p v').toArray 55) (ho : Own inE w' B v' l') (hf : ∀ g, v'.ownBlock = some g → v.ownBlock = some g ∨ w.heap.size ≤ g) :
    CAt w' B cb lv rv sv m wv sb qb db kb D (C.set p v') { c with causes := c.causes.set p l' } := by
  have nt : ∀ i g, i ≠ .k → i ≠ .ca p → owner cb sb qb db kb wv D C i = some g → ¬ Touch (owner cb sb qb db kb wv D C) (fun i => i = .k ∨ i = .ca p) g :=
    fun i g h1 h2 hg => h.dist.not_touch (by rintro (e | e); exact h1 e; exact h2 e) hg
  have hp := get_lt hv
  refine ⟨h.blk.keep k (nt .c _ (by simp) (by simp) rfl), h.wait.keep k (fun g hg => nt .w g (by simp) (by simp) hg), h.st.keep k (nt .s _ (by simp) (by simp) rfl), h.sq.keep k (nt .q _ (by simp) (by simp) rfl), h.dn.keep k (nt .d _ (by simp) (by simp) rfl), hb, h.dl, by simp [h.cl],
   fun p v l h1 h2 => (h.dns p v l h1 h2).keep k (fun g hg => nt (.dn p) g (by simp) (by simp) ((own_dn h1).trans hg)), fun q u l h1 h2 => ?_, h.lc, h.ls, h.lq, h.ld, h.lk, h.nd, by simp [h.nc], ?_⟩
  · rcases set_get h1 with ⟨e1, e2⟩ | ⟨e1, e2⟩
    · rcases set_get h2 with ⟨e3, e4⟩ | ⟨e3, _⟩
      · rw [e2, e4]; exact ho
      · exact absurd e1 e3
    · rcases set_get h2 with ⟨e3, _⟩ | ⟨_, e4⟩
      · exact absurd e3 e1
      · exact (h.cas q u l e2 e4).keep k (fun g hg => nt (.ca q) g (by simp) (by simp [e1]) ((own_ca e2).trans hg))
  · refine h.dist.turn (.ca p) (fun j g hj => (h.lt hj).2) (fun j hj => ?_) (fun g hg => ?_)
    · unfold owner
      split <;> first | rfl | skip
      rename_i q
      have : q ≠ p := fun e => hj (by rw [e])
      rw [List.getElem?_set_ne (by omega)]
    · rw [own_ca (v := v') (by rw [List.getElem?_set_self hp])] at hg
      rw [own_ca hv]
      exact hf g hg

end
end Go.Proofs.Ytaieackeflmhgaa

