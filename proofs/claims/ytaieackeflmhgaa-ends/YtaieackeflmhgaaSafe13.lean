/-
  A model's rows, of one's own.
  The net in memory.
  The program: deliver.
  The program: goOn.
  The net's numbers are small: what the program asks of a state holds in every state that steps lead to.
  The program: what a process has done, told.
-/
import Derived.Test.YtaieackeflmhgaaSafe12
import Derived.Test.YtaieackeflmhgaaSafe9
import Derived.Laws.OwnMore
namespace Go.Proofs.Ytaieackeflmhgaa
open Go.RowKit Go.Sort Go.Maps

/-- rows of a model, of one's own, in blocks from lo on -/
structure ModOwn (w : World) (lo : Nat) (lv rv : Value) (m : Mdl) (RS : List RuleS) : Prop where
  links : Own lkE w lo lv m.links
  rules : Own rlE w lo rv RS
  same : RS.map RuleS.r = m.rules
  ems : ∀ x ∈ RS, Own etE w lo x.ev x.r.es

theorem ModOwn.modelAt {w : World} {lo : Nat} {lv rv : Value} {m : Mdl} {RS : List RuleS} (h : ModOwn w lo lv rv m RS) : ModelAt w w.heap.size lv rv (.slice none 0 0) (keptM m) (RS.map RuleS.v) := by
  refine ⟨h.links.rows, ⟨RowsAt.map (f := RuleS.v) h.rules.rows, fun x hx => ?_⟩, ⟨none, 0, rfl, Nat.le_refl _, fun e => absurd rfl e⟩, ?_⟩
  · obtain ⟨y, hy, rfl⟩ := List.mem_map.1 hx
    exact (h.ems y hy).rows
  · rw [List.map_map]; exact h.same
/-- the blocks of a model's rows -/
def MF (lv rv : Value) (RS : List RuleS) (k : Nat) : Prop := lv.ownBlock = some k ∨ rv.ownBlock = some k ∨ ∃ x ∈ RS, x.ev.ownBlock = some k
theorem ModOwn.keep {G : Nat → Prop} {w w' : World} {lo : Nat} {lv rv : Value} {m : Mdl} {RS : List RuleS} (h : ModOwn w lo lv rv m RS) (k : KeptF G w w') (hG : ∀ i, MF lv rv RS i → ¬ G i) : ModOwn w' lo lv rv m RS :=
  ⟨h.links.keep k (fun g hg => hG g (.inl hg)), h.rules.keep k (fun g hg => hG g (.inr (.inl hg))), h.same, fun x hx => (h.ems x hx).keep k (fun g hg => hG g (.inr (.inr ⟨x, hx, hg⟩)))⟩
theorem ModOwn.lt {w : World} {lo : Nat} {lv rv : Value} {m : Mdl} {RS : List RuleS} (h : ModOwn w lo lv rv m RS) {k : Nat} (hk : MF lv rv RS k) : lo ≤ k ∧ k < w.heap.size := by
  rcases hk with hk | hk | ⟨x, hx, hk⟩
  · exact h.links.lt hk
  · exact h.rules.lt hk
  · exact (h.ems x hx).lt hk
theorem Own.rowsB4 {α : Type} {E : Enc α} {w : World} {B N : Nat} {v : Value} {l : List α} (h : Own E w B v l) (hg : ∀ g, v.ownBlock = some g → g < N) : RowsAt E.sz E.enc w N v l := by
  rcases h.form with ⟨h1, h2⟩ | ⟨g, cap, h1, h2⟩
  · subst h2
    exact ⟨none, 0, h1, Nat.le_refl _, fun h => absurd rfl h⟩
  · subst h1
    refine ⟨_, _, rfl, h2, fun _ => ⟨g, 0, rfl, hg g rfl, fun j x k u hx hu => ?_⟩⟩
    rw [Nat.zero_add]
    exact h.cell hx hu
theorem ModOwn.at_ {w : World} {lo N : Nat} {lv rv : Value} {m : Mdl} {RS : List RuleS} (h : ModOwn w lo lv rv m RS) (hN : ∀ k, MF lv rv RS k → k < N) : ModelAt w N lv rv (.slice none 0 0) (keptM m) (RS.map RuleS.v) := by
  refine ⟨h.links.rowsB4 (fun g hg => hN g (.inl hg)), ⟨RowsAt.map (f := RuleS.v) (h.rules.rowsB4 (fun g hg => hN g (.inr (.inl hg)))), fun x hx => ?_⟩, ⟨none, 0, rfl, Nat.le_refl _, fun e => absurd rfl e⟩, ?_⟩
  · obtain ⟨y, hy, rfl⟩ := List.mem_map.1 hx
    exact (h.ems y hy).rowsB4 (fun g hg => hN g (.inr (.inr ⟨y, hy, hg⟩)))
  · rw [List.map_map]; exact h.same

end Go.Proofs.Ytaieackeflmhgaa

namespace Go.Proofs.Ytaieackeflmhgaa
open Go.RowKit Go.Sort Go.Maps

structure NV where
  lo : Nat
  Bm : Nat
  B : Nat
  lv : Value
  rv : Value
  RS : List RuleS
  pb : Nat
  ps : List Pr
  gb : Nat
  gv : List Value

/-- the blocks of a net -/
def NF (nb : Nat) (V : NV) (k : Nat) : Prop := k = nb ∨ k = V.gb ∨ AllF V.pb V.ps k ∨ ∃ v ∈ V.gv, v.ownBlock = some k
def netC (m : Mdl) (V : NV) : Array Value := #[.int .i64 m.procs, .int .i64 m.states, .int .i64 m.loads, V.lv, V.rv, .slice none 0 0, .slice (some ⟨V.pb, 0, none⟩) (np m) (np m), .slice (some ⟨V.gb, 0, none⟩) m.links.length m.links.length]

structure NetAt (w : World) (nb : Nat) (m : Mdl) (en : Int) (s : NS) (V : NV) : Prop where
  blk : Blk w nb (netC m V) 141
  mo : ModOwn w V.lo V.lv V.rv m V.RS
  mlt : ∀ k, MF V.lv V.rv V.RS k → k < V.Bm ∧ k ≠ V.gb
  low : V.Bm ≤ V.B
  lol : V.lo ≤ V.B
  procs : Procs w V.B V.pb (np m) V.ps
  plen : V.ps.length = np m
  slen : s.ps.length = np m
  rel : ∀ (i : Nat) (p : Pr) (a : NP), V.ps[i]? = some p → s.ps[i]? = some a → PRel en i p a
  garr : Blk w V.gb V.gv.toArray 145
  glen : V.gv.length = m.links.length
  llen : s.ls.length = m.links.length
  each : ∀ (k : Nat) (v : Value), V.gv[k]? = some v → Own pclE w V.B v (s.ls.getD k [])
  gne : ∀ (i j : Nat) (v v' : Value) (g : Nat), V.gv[i]? = some v → V.gv[j]? = some v' → i ≠ j → v.ownBlock = some g → v'.ownBlock ≠ some g
  nlow : V.B ≤ nb
  glow : V.lo ≤ V.gb
  ng : nb ≠ V.gb
  pn : ¬ AllF V.pb V.ps nb
  pg : ¬ AllF V.pb V.ps V.gb
  vn : ∀ v ∈ V.gv, v.ownBlock ≠ some nb ∧ v.ownBlock ≠ some V.gb ∧ ∀ g, v.ownBlock = some g → ¬ AllF V.pb V.ps g

section
variable {w w' : World} {nb : Nat} {m : Mdl} {en : Int} {s : NS} {V : NV}

theorem NetAt.lt (h : NetAt w nb m en s V) {k : Nat} (hk : NF nb V k) : V.lo ≤ k ∧ k < w.heap.size := by
  rcases hk with rfl | rfl | hk | ⟨v, hv, hk⟩
  · exact ⟨Nat.le_trans h.lol h.nlow, h.blk.lt⟩
  · exact ⟨h.glow, h.garr.lt⟩
  · have := h.procs.lt hk
    exact ⟨Nat.le_trans h.lol this.1, this.2⟩
  · obtain ⟨i, hi⟩ := List.getElem?_of_mem hv
    have := (h.each i v hi).lt hk
    exact ⟨Nat.le_trans h.lol this.1, this.2⟩
theorem NetAt.mod (h : NetAt w nb m en s V) : ModelAt w V.Bm V.lv V.rv (.slice none 0 0) (keptM m) (V.RS.map RuleS.v) := h.mo.at_ (fun k hk => (h.mlt k hk).1)
/-- the net's blocks are not its model's -/
theorem NetAt.apart (h : NetAt w nb m en s V) {k : Nat} (hm : MF V.lv V.rv V.RS k) (hk : NF nb V k) : False := by
  have h1 := h.mlt k hm
  have h2 := h.low
  rcases hk with rfl | rfl | hk | ⟨v, hv, hk⟩
  · have := h.nlow; omega
  · exact h1.2 rfl
  · have := (h.procs.lt hk).1; omega
  · obtain ⟨i, hi⟩ := List.getElem?_of_mem hv
    have := ((h.each i v hi).lt hk).1; omega

theorem NetAt.keep {G : Nat → Prop} (h : NetAt w nb m en s V) (k : KeptF G w w') (hG : ∀ i, NF nb V i → ¬ G i) (hM : ∀ i, MF V.lv V.rv V.RS i → ¬ G i) : NetAt w' nb m en s V :=
  ⟨h.blk.keep k (hG _ (.inl rfl)), h.mo.keep k hM, h.mlt, h.low, h.lol, h.procs.keep k (fun i hi => hG i (.inr (.inr (.inl hi)))), h.plen, h.slen, h.rel, h.garr.keep k (hG _ (.inr (.inl rfl))), h.glen, h.llen,
   fun i v hv => (h.each i v hv).keep k (fun g hg => hG g (.inr (.inr (.inr ⟨v, List.mem_of_getElem? hv, hg⟩)))), h.gne, h.nlow, h.glow, h.ng, h.pn, h.pg, h.vn⟩
theorem NetAt.bm (h : NetAt w nb m en s V) : V.Bm ≤ w.heap.size := Nat.le_trans h.low (Nat.le_trans h.nlow (Nat.le_of_lt h.blk.lt))
theorem NetAt.bsz (h : NetAt w nb m en s V) : V.B ≤ w.heap.size := Nat.le_trans h.nlow (Nat.le_of_lt h.blk.lt)
theorem NetAt.grow (h : NetAt w nb m en s V) (k : KeptF (fun _ => False) w w') : NetAt w' nb m en s V := h.keep k (fun _ _ e => e) (fun _ _ e => e)

/-- a net in memory has turned -/
structure NGo (w w' : World) (nb : Nat) (m : Mdl) (en : Int) (s' : NS) (V V' : NV) : Prop where
  at_ : NetAt w' nb m en s' V'
  kept : KeptF (NF nb V) w w'
  foot : ∀ k, NF nb V' k → NF nb V k ∨ w.heap.size ≤ k
  bB : V'.B = V.B
  bM : V'.Bm = V.Bm
  bL : V'.lo = V.lo
  mf : V'.lv = V.lv ∧ V'.rv = V.rv ∧ V'.RS = V.RS

theorem NGo.refl (h : NetAt w nb m en s V) : NGo w w nb m en s V V := ⟨h, KeptF.refl _ _, fun _ hk => .inl hk, rfl, rfl, rfl, rfl, rfl, rfl⟩
theorem NGo.trans {w'' : World} {s' s'' : NS} {V' V'' : NV} (h : NGo w w' nb m en s' V V') (k : NGo w' w'' nb m en s'' V' V'') : NGo w w'' nb m en s'' V V'' := by
  refine ⟨k.at_, h.kept.trans' k.kept (fun i hi hf => ?_), fun i hi => ?_, k.bB.trans h.bB, k.bM.trans h.bM, k.bL.trans h.bL, k.mf.1.trans h.mf.1, k.mf.2.1.trans h.mf.2.1, k.mf.2.2.trans h.mf.2.2⟩
  · rcases h.foot i hf with h1 | h1
    · exact h1
    · omega
  · rcases k.foot i hi with h1 | h1
    · exact h.foot i h1
    · exact .inr (Nat.le_trans h.kept.size h1)
theorem NGo.grow {w'' : World} {s' : NS} {V' : NV} (h : NGo w w' nb m en s' V V') (k : KeptF (fun _ => False) w' w'') : NGo w w'' nb m en s' V V' :=
  ⟨h.at_.grow k, h.kept.trans (k.weaken (fun _ _ e => e.elim)), h.foot, h.bB, h.bM, h.bL, h.mf⟩
theorem NGo.ahead {w0 : World} {s' : NS} {V' : NV} (k : KeptF (fun _ => False) w w0) (h : NGo w0 w' nb m en s' V V') : NGo w w' nb m en s' V V' :=
  ⟨h.at_, (k.weaken (fun _ _ e => e.elim)).trans h.kept, fun i hi => (h.foot i hi).imp id (fun e => Nat.le_trans k.size e), h.bB, h.bM, h.bL, h.mf⟩
theorem NGo.below {s' : NS} {V' : NV} (h0 : NetAt w nb m en s V) (h : NGo w w' nb m en s' V V') : Below V.lo w w' := KeptF.below h.kept (Nat.le_trans h0.lol h0.bsz) (fun _ hi => (h0.lt hi).1)

/-- a process turns -/
theorem NetAt.turn (h : NetAt w nb m en s V) {i : Nat} {p p' : Pr} {a' : NP} (hp : V.ps[i]? = some p) (hg : PGo w w' V.B p p') (hr : PRel en i p' a') : NGo w w' nb m en ⟨s.ps.set i a', s.ls⟩ V { V with ps := V.ps.set i p' } := by
  have hpm := List.mem_of_getElem? hp
  have hAF : ∀ k, PF p k → AllF V.pb V.ps k := fun k hk => .inr ⟨p, hpm, hk⟩
  have hfoot : ∀ k, AllF V.pb (V.ps.set i p') k → AllF V.pb V.ps k ∨ w.heap.size ≤ k := by
    rintro k (hk | ⟨q, hq, hk⟩)
    · exact .inl (.inl hk)
    · obtain ⟨j, hj⟩ := List.getElem?_of_mem hq
      rcases set_get hj with ⟨_, e⟩ | ⟨_, e⟩
      · subst e
        exact (hg.foot k hk).imp (hAF k) id
      · exact .inl (.inr ⟨q, List.mem_of_getElem? e, hk⟩)
  refine ⟨⟨h.blk.keep hg.kept (fun hf => h.pn (hAF _ hf)), h.mo.keep hg.kept (fun k hk hf => h.apart hk (.inr (.inr (.inl (hAF k hf))))), h.mlt, h.low, h.lol, h.procs.turn hp hg.kept hg.at_ hg.qb hg.foot, by simp [h.plen], by simp [h.slen], fun j q b hq hb => ?_, h.garr.keep hg.kept (fun hf => h.pg (hAF _ hf)), h.glen, h.llen,
    fun j v hv => (h.each j v hv).keep hg.kept (fun g hgg hf => (h.vn v (List.mem_of_getElem? hv)).2.2 g hgg (hAF g hf)), h.gne, h.nlow, h.glow, h.ng, fun hf => ?_, fun hf => ?_, fun v hv => ⟨(h.vn v hv).1, (h.vn v hv).2.1, fun g hgg hf => ?_⟩⟩,
    hg.kept.weaken (fun k _ hk => .inr (.inr (.inl (hAF k hk)))), fun k hk => ?_, rfl, rfl, rfl, rfl, rfl, rfl⟩
  · rcases set_get hq with ⟨e1, e2⟩ | ⟨e1, e2⟩
    · rcases set_get hb with ⟨_, e4⟩ | ⟨e3, _⟩
      · subst e1 e2 e4; exact hr
      · exact absurd e1 e3
    · rcases set_get hb with ⟨e3, _⟩ | ⟨_, e4⟩
      · exact absurd e3 e1
      · exact h.rel j q b e2 e4
  · rcases hfoot _ hf with h1 | h1
    · exact h.pn h1
    · have := h.blk.lt; omega
  · rcases hfoot _ hf with h1 | h1
    · exact h.pg h1
    · have := h.garr.lt
      simp only at h1
      omega
  · rcases hfoot _ hf with h1 | h1
    · exact (h.vn v hv).2.2 g hgg h1
    · obtain ⟨j, hj⟩ := List.getElem?_of_mem hv
      have := ((h.each j v hj).lt hgg).2
      omega
  · rcases hk with hk | hk | hk | hk
    · exact .inl (.inl hk)
    · exact .inl (.inr (.inl hk))
    · exact (hfoot k hk).imp (fun e => .inr (.inr (.inl e))) id
    · exact .inl (.inr (.inr (.inr hk)))

/-- a link's row turns -/
theorem NetAt.setLink {w1 : World} (h : NetAt w nb m en s V) {k : Nat} {v v' : Value} {l' : List Pcl} (hv : V.gv[k]? = some v) (k1 : KeptF (fun g => v.ownBlock = some g) w w1) (ho : Own pclE w1 V.B v' l') (hf : ∀ g, v'.ownBlock = some g → v.ownBlock = some g ∨ w.heap.size ≤ g) :
    NGo w (w1.setCell ⟨V.gb, k, none⟩ v') nb m en ⟨s.ps, s.ls.set k l'⟩ V { V with gv := V.gv.set k v' } := by
  have hvm := List.mem_of_getElem? hv
  have hvn := h.vn v hvm
  have hkl := get_lt hv
  have k2 : KeptF (fun g => g = V.gb) w1 (w1.setCell ⟨V.gb, k, none⟩ v') := (KeptF.refl (fun g => g = V.gb) w1).setCell (p := ⟨V.gb, k, none⟩) (.inl rfl) _
  have hvl : ∀ g, v.ownBlock = some g → V.B ≤ g ∧ g < w.heap.size := fun g hg => (h.each k v hv).lt hg
  have hv'n : ∀ g, v'.ownBlock = some g → g ≠ nb ∧ g ≠ V.gb ∧ ¬ AllF V.pb V.ps g := fun g hg => by
    rcases hf g hg with h1 | h1
    · exact ⟨fun e => hvn.1 (by rw [h1, e]), fun e => hvn.2.1 (by rw [h1, e]), hvn.2.2 g h1⟩
    · refine ⟨fun e => ?_, fun e => ?_, fun e => ?_⟩
      · have := h.blk.lt; omega
      · have := h.garr.lt; omega
      · have := (h.procs.lt e).2; omega
  have hother : ∀ j x, j ≠ k → V.gv[j]? = some x → ∀ g, x.ownBlock = some g → v.ownBlock ≠ some g ∧ v'.ownBlock ≠ some g := fun j x hj hx g hg => by
    have h1 := h.gne j k x v g hx hv hj hg
    refine ⟨h1, fun e => ?_⟩
    rcases hf g e with h2 | h2
    · exact h1 h2
    · have := ((h.each j x hx).lt hg).2; omega
  have kk : KeptF (NF nb V) w (w1.setCell ⟨V.gb, k, none⟩ v') := (k1.weaken (fun g _ e => .inr (.inr (.inr ⟨v, hvm, e⟩)))).trans (k2.weaken (fun g _ e => .inr (.inl e)))
  refine ⟨⟨(h.blk.keep k1 hvn.1).keep k2 h.ng, h.mo.keep kk (fun g hg hf => h.apart hg hf), h.mlt, h.low, h.lol, (h.procs.keep k1 (fun g hg e => hvn.2.2 g e hg)).keep k2 (fun g hg e => h.pg (e ▸ hg)), h.plen, h.slen, h.rel, ?_, by simp [h.glen], by simp [h.llen], fun j x hx => ?_, fun i j x y g hx hy hij hg => ?_, h.nlow, h.glow, h.ng, h.pn, h.pg, fun x hx => ?_⟩, kk, fun g hg => ?_, rfl, rfl, rfl, rfl, rfl, rfl⟩
  · have h1 := (h.garr.keep k1 hvn.2.1).set k v'
    rw [List.setIfInBounds_toArray] at h1
    exact h1
  · simp only at hx ⊢
    rcases set_get hx with ⟨e1, e2⟩ | ⟨e1, e2⟩
    · subst e1 e2
      rw [getD_set_self (by rw [h.llen, ← h.glen]; exact hkl)]
      exact ho.keep k2 (fun g hg e => (hv'n g hg).2.1 e)
    · rw [getD_set_ne e1]
      exact ((h.each j x e2).keep k1 (fun g hg => (hother j x e1 e2 g hg).1)).keep k2 (fun g hg e => (h.vn x (List.mem_of_getElem? e2)).2.1 (by rw [hg, e]))
  · rcases set_get hx with ⟨e1, e2⟩ | ⟨e1, e2⟩
    · rcases set_get hy with ⟨e3, _⟩ | ⟨e3, e4⟩
      · omega
      · subst e2
        intro e5
        exact (hother j y e3 e4 g e5).2 hg
    · rcases set_get hy with ⟨e3, e4⟩ | ⟨e3, e4⟩
      · subst e4
        exact (hother i x e1 e2 g hg).2
      · exact h.gne i j x y g e2 e4 hij hg
  · obtain ⟨j, hj⟩ := List.getElem?_of_mem hx
    rcases set_get hj with ⟨_, e2⟩ | ⟨_, e2⟩
    · subst e2
      exact ⟨fun e => (hv'n _ e).1 rfl, fun e => (hv'n _ e).2.1 rfl, fun g hg => (hv'n g hg).2.2⟩
    · exact h.vn x (List.mem_of_getElem? e2)
  · rcases hg with hg | hg | hg | ⟨x, hx, hg⟩
    · exact .inl (.inl hg)
    · exact .inl (.inr (.inl hg))
    · exact .inl (.inr (.inr (.inl hg)))
    · obtain ⟨j, hj⟩ := List.getElem?_of_mem hx
      rcases set_get hj with ⟨_, e2⟩ | ⟨_, e2⟩
      · subst e2
        exact (hf g hg).imp (fun e => .inr (.inr (.inr ⟨v, hvm, e⟩))) id
      · exact .inl (.inr (.inr (.inr ⟨x, List.mem_of_getElem? e2, hg⟩)))

end

end Go.Proofs.Ytaieackeflmhgaa

namespace Go.Proofs.Ytaieackeflmhgaa
open Go.RowKit Go.Sort Go.Maps

theorem drain_zero (m : Mdl) (ls : List (List Pcl)) (p : Nat) : drain m ls p 0 = ls := by
  unfold drain
  apply List.ext_getElem?
  intro i
  rw [List.getElem?_mapIdx]
  cases ls[i]? <;> simp
theorem drain_succ {m : Mdl} {ls : List (List Pcl)} {p n : Nat} (h : n < ls.length) : drain m ls p (n + 1) = if leads m p n = true then (drain m ls p n).set n [] else drain m ls p n := by
  obtain ⟨l, hl⟩ := get_of_lt h
  have hdn : (drain m ls p n)[n]? = some l := by
    unfold drain
    rw [List.getElem?_mapIdx, hl]; simp
  apply List.ext_getElem?
  intro i
  by_cases hlead : leads m p n = true
  · rw [if_pos hlead]
    by_cases e : i = n
    · subst e
      rw [List.getElem?_set_self (get_lt hdn)]
      unfold drain
      rw [List.getElem?_mapIdx, hl]; simp [hlead]
    · rw [List.getElem?_set_ne (by omega)]
      unfold drain
      rw [List.getElem?_mapIdx, List.getElem?_mapIdx]
      cases ls[i]? with
      | none => rfl
      | some x =>
        simp only [Option.map_some, Option.some.injEq]
        have : decide (i < n + 1) = decide (i < n) := by by_cases h1 : i < n <;> simp [h1] <;> omega
        rw [this]
  · rw [if_neg hlead]
    unfold drain
    rw [List.getElem?_mapIdx, List.getElem?_mapIdx]
    cases ls[i]? with
    | none => rfl
    | some x =>
      simp only [Option.map_some, Option.some.injEq]
      by_cases e : i = n
      · subst e; simp [hlead]
      · have : decide (i < n + 1) = decide (i < n) := by by_cases h1 : i < n <;> simp [h1] <;> omega
        rw [this]
theorem inbox_succ (m : Mdl) (ls : List (List Pcl)) (p n : Nat) : inbox m ls p (n + 1) = inbox m ls p n ++ boxI m ls p n := by
  unfold inbox
  rw [List.range_succ, List.flatMap_append]; simp
theorem drain_at (m : Mdl) (ls : List (List Pcl)) (p n : Nat) : (drain m ls p n).getD n [] = ls.getD n [] := by
  rw [drain_get]; simp

theorem msgs_take (l : List Pcl) (n : Nat) : (msgs (l.take n)).length ≤ (msgs l).length := by
  have h := msgs_append (l.take n) (l.drop n)
  rw [List.take_append_drop] at h
  rw [h, List.length_append]; omega

/-- what may lie on a link -/
def PclOk (x : Pcl) : Prop := (x.kd = 0 ∨ x.kd = 1 ∨ x.kd = 2) ∧ (0 ≤ x.k ∧ x.k < 12) ∧ (x.kd ≠ 2 → 0 ≤ x.it.t ∧ x.it.t ≤ 1000)

/-- a net, its links up to j drained into process i -/
def dlvS (m : Mdl) (s : NS) (i : Nat) (a : NP) (j : Nat) : NS := ⟨s.ps.set i (taken m s.ls i j a), drain m s.ls i j⟩

set_option maxRecDepth 100000 in
set_option maxHeartbeats 16000000 in
theorem deliver_any (w : World) (nb : Nat) (m : Mdl) (en : Int) (s : NS) (V : NV) (i : Nat) (p : Pr) (a : NP) (h : NetAt w nb m en s V) (hm : Right m) (hp : V.ps[i]? = some p) (ha : s.ps[i]? = some a) (hok : ∀ k, ∀ x ∈ s.ls.getD k [], PclOk x) (hpu : p.pushed + (msgs (inbox m s.ls i m.links.length)).length ≤ 5000) (hll : ∀ k, (s.ls.getD k []).length ≤ 50000) :
    Calls Try.prog 84 #[.pointer (some ⟨nb, 0, none⟩), .pointer (some ⟨p.qb, 0, none⟩)] w fun e w' => e = .returned (.bool (!(inbox m s.ls i m.links.length).isEmpty)) ∧ ∃ V' : NV, NGo w w' nb m en (dlvS m s i a m.links.length) V V' ∧ ∃ p' : Pr, V'.ps[i]? = some p' ∧ p'.qb = p.qb := by
  have hnl := hm.lim.nl
  obtain ⟨ao, cap, hlv, hcap⟩ := RowsAt.form h.mod.links
  have hlv : V.lv = .slice ao m.links.length cap := hlv
  have hcap : m.links.length ≤ cap := hcap
  have n3 : w.cell? ⟨nb, 3, none⟩ = some (.slice ao m.links.length cap) := by rw [← hlv]; exact h.blk.cell 3
  have hln := h.blk.lt
  have hs0 : dlvS m s i a 0 = s := by
    unfold dlvS
    rw [drain_zero]
    have : taken m s.ls i 0 a = a := by unfold taken inbox; rfl
    rw [this, set_same ha]
  have hgo0 : NGo w w nb m en (dlvS m s i a 0) V V := by rw [hs0]; exact NGo.refl h
  have hib : inbox m s.ls i 0 = [] := rfl
  have Hal : Hid (s.ps[i]? = some a) := ha
  clear ha hs0
  go_enter Try.func84, Try.ntmps84
  go_wp2
  go_loopw [5, 16] (fun s5 s16 wr => ∃ (j : Nat) (V' : NV) (p' : Pr), s5 = .bool (!(inbox m s.ls i j).isEmpty) ∧ s16 = .int .i64 j ∧ j ≤ m.links.length ∧ NGo w wr nb m en (dlvS m s i a j) V V' ∧ V'.ps[i]? = some p' ∧ p'.qb = p.qb ∧ p'.pushed ≤ p.pushed + (msgs (inbox m s.ls i j)).length ∧ V'.lv = V.lv) (fun _ s16 _ => m.links.length - (intOf s16).toNat)
  case atStart => exact ⟨0, V, p, by rw [hib]; rfl, rfl, Nat.zero_le _, hgo0, hp, rfl, Nat.le_add_right _ _, rfl⟩
  case round =>
    clear hgo0 hib n3
    obtain ⟨j, V', p', rfl, rfl, hj, hgo, hp', hqb, hpu', hlv'⟩ := hrel
    have hN := hgo.at_
    by_cases hlt : j < m.links.length
    · obtain ⟨z, hz⟩ := get_of_lt hlt
      have hml := hN.mod.links
      rw [hlv', hlv] at hml
      obtain ⟨lb, lo, hao, hlbB, hlc⟩ := RowsAt.at_ hml (show (keptM m).links[j]? = some z from hz)
      subst hao
      have x0 := hlc 0 (.int .i64 z.f) rfl
      have x1 := hlc 1 (.int .i64 z.t) rfl
      have x2 := hlc 2 (.int .i64 z.a) rfl
      simp only [Nat.add_zero] at x0
      have hzb := hm.link hz
      have hllb : lb < wr.heap.size := block_lt_of_cell x0
      have hil : i < s.ps.length := get_lt Hal.out
      have hrlp := hN.rel i p' _ hp' (show (dlvS m s i a j).ps[i]? = some (taken m s.ls i j a) from List.getElem?_set_self hil)
      have hPp := hN.procs.each p' (List.mem_of_getElem? hp')
      have c8 : wr.cell? ⟨p.qb, 8, none⟩ = some (.int .i64 (i : Int)) := by rw [← hqb, ← hrlp.num]; exact hPp.cells.1
      have hlq : p.qb < wr.heap.size := block_lt_of_cell c8
      obtain ⟨Wl, hWl⟩ : ∃ Wl, Wl = wr.alloc (.cells #[.int .i64 z.f, .int .i64 z.t, .int .i64 z.a] 94) := ⟨_, rfl⟩
      have HWl : Hid (Wl = wr.alloc (.cells #[.int .i64 z.f, .int .i64 z.t, .int .i64 z.a] 94)) := hWl
      have hKl : KeptF (fun _ => False) wr Wl := by rw [hWl]; exact (KeptF.refl _ wr).alloc _
      have hlk : Blk Wl wr.heap.size #[.int .i64 z.f, .int .i64 z.t, .int .i64 z.a] 94 := by rw [hWl]; exact heap_alloc_new wr _
      have k1 : Wl.cell? ⟨wr.heap.size, 1, none⟩ = some (.int .i64 z.t) := hlk.cell 1
      have d8 : Wl.cell? ⟨p.qb, 8, none⟩ = some (.int .i64 (i : Int)) := (hKl.cell (p := ⟨p.qb, 8, none⟩) hlq (fun e => e)).trans c8
      have hll1 := hlk.lt
      have hlq1 : p.qb < Wl.heap.size := block_lt_of_cell d8
      have Hz : Hid (m.links[j]? = some z) := hz
      clear hWl hz hlc
      go_upto_region 5 with fail
      rw [← HWl.out]
      clear x0 x1 x2 c8
      refine still_tail' 6 (by kernel_rfl) (by kernel_rfl) ?_
      simp only [List.take_succ_cons, List.take_zero, List.drop_succ_cons, List.drop_zero]
      repeat still_step
      refine wpStill_nil ?_
      obtain ⟨Wd, hWd⟩ : ∃ Wd, Wd = Wl.drew := ⟨_, rfl⟩
      rw [← hWd]
      have hKd : KeptF (fun _ => False) wr Wd := by rw [hWd]; exact hKl.drew
      have hgod := hgo.grow hKd
      clear hWd k1 d8 hlk hKl HWl hll1 hlq1
      by_cases hzi : z.t = (i : Int)
      · have hlead : leads m i j = true := leads_iff.2 ⟨z, Hz.out, hzi⟩
        rw [hzi]
        clear hzi
        have hNd := hgod.at_
        have hjl : j < s.ls.length := by have := hN.llen; rw [show (dlvS m s i a j).ls = drain m s.ls i j from rfl, drain_length] at this; omega
        obtain ⟨vj, hvj⟩ := get_of_lt (d := V'.gv) (k := j) (by rw [hNd.glen]; exact hlt)
        have hOj := hNd.each j vj hvj
        rw [show (dlvS m s i a j).ls = drain m s.ls i j from rfl, drain_at] at hOj
        obtain ⟨row, hrow⟩ : ∃ row, row = s.ls.getD j [] := ⟨_, rfl⟩
        rw [← hrow] at hOj
        have hrowl : row.length ≤ 50000 := by rw [hrow]; exact hll j
        have hrowok : ∀ x ∈ row, PclOk x := by rw [hrow]; exact hok j
        obtain ⟨aj, cj, hvjf, hcj⟩ := hOj.form'
        subst hvjf
        have e7 : Wd.cell? ⟨nb, 7, none⟩ = some (.slice (some ⟨V'.gb, 0, none⟩) m.links.length m.links.length) := hNd.blk.cell 7
        have eg : Wd.cell? ⟨V'.gb, j, none⟩ = some (.slice aj row.length cj) := by rw [hNd.garr.cell, List.getElem?_toArray, hvj]
        have hlnd := hNd.blk.lt
        have hlgd := hNd.garr.lt
        have hibs : inbox m s.ls i (j + 1) = inbox m s.ls i j ++ row := by rw [inbox_succ, boxI_leads hlead, ← hrow]
        have hsub : (msgs (inbox m s.ls i (j + 1))).length ≤ (msgs (inbox m s.ls i m.links.length)).length := by
          have : ∀ n, (msgs (inbox m s.ls i (j + 1))).length ≤ (msgs (inbox m s.ls i (j + 1 + n))).length := fun n => by
            induction n with
            | zero => exact Nat.le_refl _
            | succ n ih =>
              have h1 := inbox_succ m s.ls i (j + 1 + n)
              rw [show j + 1 + (n + 1) = (j + 1 + n) + 1 by omega, h1, msgs_append, List.length_append]
              omega
          have h1 := this (m.links.length - (j + 1))
          rw [show j + 1 + (m.links.length - (j + 1)) = m.links.length by omega] at h1
          exact h1
        have hpuj : p'.pushed + (msgs row).length ≤ 5000 := by
          rw [hibs, msgs_append, List.length_append] at hsub
          omega
        have Hibs : Hid (inbox m s.ls i (j + 1) = inbox m s.ls i j ++ row) := hibs
        have hPd := hNd.procs.each p' (List.mem_of_getElem? hp')
        have Hvj : Hid (V'.gv[j]? = some (.slice aj row.length cj)) := hvj
        have Hp' : Hid (V'.ps[i]? = some p') := hp'
        have hBd := hNd.bsz
        have Htk : Hid (taken m s.ls i (j + 1) a = row.foldl takeIn (taken m s.ls i j a)) := by
          show _ = _
          unfold taken
          rw [hibs, List.foldl_append]
        obtain ⟨b0, hb0⟩ : ∃ b0, b0 = taken m s.ls i j a := ⟨_, rfl⟩
        have Hb0 : Hid (b0 = taken m s.ls i j a) := hb0
        rw [← hb0] at hrlp Htk
        have hvn : ∀ g, (Value.slice aj row.length cj).ownBlock = some g → ¬ PF p' g := fun g hg hf => (hNd.vn _ (List.mem_of_getElem? hvj)).2.2 g hg (.inr ⟨p', List.mem_of_getElem? hp', hf⟩)
        clear hb0 hibs hsub hvj hrow hp'
        go_wp2
        clear e7 eg
        go_loopw [5, 36] (fun s5 s36 wq => ∃ (q : Nat) (pq : Pr), s5 = .bool (!(inbox m s.ls i j).isEmpty || decide (0 < q)) ∧ s36 = .int .i64 q ∧ q ≤ row.length ∧ PGo Wd wq V'.B p' pq ∧ PRel en i pq ((row.take q).foldl takeIn b0) ∧ pq.pushed ≤ p'.pushed + (msgs (row.take q)).length) (fun _ s36 _ => row.length - (intOf s36).toNat)
        case atStart => exact ⟨0, p', by simp, rfl, Nat.zero_le _, PGo.refl hPd, hrlp, Nat.le_add_right _ _⟩
        case round =>
          clear hrlp
          obtain ⟨q, pq, rfl, rfl, hq, hpg, hrl, hpuq⟩ := hrel
          have hOw := hOj.keep hpg.kept hvn
          have hsz := hpg.kept.size
          by_cases hlt2 : q < row.length
          · obtain ⟨x, hx⟩ := get_of_lt hlt2
            have hxo := hrowok x (List.mem_of_getElem? hx)
            obtain ⟨g, cap', hg, _⟩ := Own.at_ hOw hx
            simp only [Value.slice.injEq] at hg
            obtain ⟨rfl, -, -⟩ := hg
            have a0 : wr.cell? ⟨g, q * 6, none⟩ = some (.int .i64 x.it.t) := hOw.cell hx (k := 0) (u := .int .i64 x.it.t) rfl
            have a1 : wr.cell? ⟨g, q * 6 + 1, none⟩ = some (.int .i64 x.it.f) := hOw.cell hx (k := 1) (u := .int .i64 x.it.f) rfl
            have a2 : wr.cell? ⟨g, q * 6 + 2, none⟩ = some (.int .i64 x.it.s) := hOw.cell hx (k := 2) (u := .int .i64 x.it.s) rfl
            have a3 : wr.cell? ⟨g, q * 6 + 3, none⟩ = some (.int .i64 x.it.l) := hOw.cell hx (k := 3) (u := .int .i64 x.it.l) rfl
            have a4 : wr.cell? ⟨g, q * 6 + 4, none⟩ = some (.int .i64 x.kd) := hOw.cell hx (k := 4) (u := .int .i64 x.kd) rfl
            have a5 : wr.cell? ⟨g, q * 6 + 5, none⟩ = some (.int .i64 x.k) := hOw.cell hx (k := 5) (u := .int .i64 x.k) rfl
            have hlg : g < wr.heap.size := block_lt_of_cell a0
            have Htq : Hid (row.take (q + 1) = row.take q ++ [x]) := by show _ = _; rw [List.take_add_one, hx]; rfl
            clear hx
            have hKx : KeptF (fun _ => False) wr (wr.alloc (.cells #[.int .i64 x.it.t, .int .i64 x.it.f, .int .i64 x.it.s, .int .i64 x.it.l, .int .i64 x.kd, .int .i64 x.k] 159)) := (KeptF.refl _ wr).alloc _
            have hpgx := hpg.grow hKx
            have htake := takeIn_any _ V'.B pq x hpgx.at_ (Nat.le_trans hBd (Nat.le_trans hsz hKx.size)) hxo.1 hxo.2.1 hxo.2.2 (by have := msgs_take row q; omega)
            rw [hpgx.qb, hqb] at htake
            go_wp2_with fail
            refine htake.mono ?_
            rintro e3 w3 ⟨rfl, p3, hg3, hr3⟩
            clear htake a0 a1 a2 a3 a4 a5
            have hp3 : p3.pushed ≤ p'.pushed + (msgs (row.take (q + 1))).length := by
              rw [Htq.out, msgs_append, List.length_append]
              have h1 := hr3 en i _ hrl
              have h2 := h1.pu
              have h3 := hrl.pu
              have hk := (takeIn_keep ((row.take q).foldl takeIn b0) x).2.2.2
              have hq1 := takeIn_q ((row.take q).foldl takeIn b0) x
              rw [hk, hq1, List.length_append] at h2
              omega
            go_wp2
            go_roundw
            case rel =>
              refine ⟨q + 1, p3, by simp, by go_num, hlt2, hpgx.trans hg3, ?_, hp3⟩
              rw [Htq.out, List.foldl_append]
              exact hr3 en i _ hrl
            case measure => simp [intOf]; omega
          · have hqe : q = row.length := by omega
            subst hqe
            rw [List.take_of_length_le (Nat.le_refl _)] at hrl
            have hng1 := hgod.at_.turn Hp'.out hpg hrl
            have hN1 := hng1.at_
            have e7 : wr.cell? ⟨nb, 7, none⟩ = some (.slice (some ⟨V'.gb, 0, none⟩) m.links.length m.links.length) := hN1.blk.cell 7
            have eg : wr.cell? ⟨V'.gb, j, none⟩ = some (.slice aj row.length cj) := by rw [hN1.garr.cell, List.getElem?_toArray, Hvj.out]
            have ef : wr.frozen? ⟨V'.gb, j, none⟩ = false := hN1.garr.frozen j
            have hl1 := hN1.blk.lt
            have hl2 : V'.gb < wr.heap.size := hN1.garr.lt
            have hng2 := hN1.setLink (k := j) (v := .slice aj row.length cj) (v' := .slice none 0 0) (l' := []) Hvj.out (KeptF.refl _ _) (Own.nil _ _ _) (fun g hg => by cases hg)
            have hngf := (hgod.trans hng1).trans hng2
            have hsf : (⟨(⟨(dlvS m s i a j).ps.set i (row.foldl takeIn b0), (dlvS m s i a j).ls⟩ : NS).ps, (⟨(dlvS m s i a j).ps.set i (row.foldl takeIn b0), (dlvS m s i a j).ls⟩ : NS).ls.set j []⟩ : NS) = dlvS m s i a (j + 1) := by
              unfold dlvS
              simp only [List.set_set]
              rw [drain_succ hjl, if_pos hlead, Htk.out]
            rw [hsf] at hngf
            have Hngf : Hid (NGo w (wr.setCell ⟨V'.gb, j, none⟩ (.slice none 0 0)) nb m en (dlvS m s i a (j + 1)) V { V' with ps := V'.ps.set i pq, gv := V'.gv.set j (.slice none 0 0) }) := hngf
            have hpi : ({ V' with ps := V'.ps.set i pq, gv := V'.gv.set j (.slice none 0 0) } : NV).ps[i]? = some pq := List.getElem?_set_self (get_lt Hp'.out)
            have Hpi : Hid (({ V' with ps := V'.ps.set i pq, gv := V'.gv.set j (.slice none 0 0) } : NV).ps[i]? = some pq) := hpi
            have hbo : (!(inbox m s.ls i j).isEmpty || decide (0 < row.length)) = !(inbox m s.ls i (j + 1)).isEmpty := by
              rw [Hibs.out]
              cases inbox m s.ls i j <;> cases row <;> simp
            have Hbo : Hid ((!(inbox m s.ls i j).isEmpty || decide (0 < row.length)) = !(inbox m s.ls i (j + 1)).isEmpty) := hbo
            clear hpi hngf hsf hng2 hng1 hN1 hbo
            go_wp2
            go_roundw
            case rel =>
              refine ⟨j + 1, _, pq, by rw [Hbo.out], by go_num, hlt, Hngf.out, Hpi.out, hpg.qb.trans hqb, ?_, hlv'⟩
              rw [List.take_of_length_le (Nat.le_refl _)] at hpuq
              rw [Hibs.out, msgs_append, List.length_append]
              omega
            case measure => simp [intOf]; omega
      · have hlead : ¬ leads m i j = true := fun e => by
          obtain ⟨z', hz', h1⟩ := leads_iff.1 e
          rw [Hz.out] at hz'; cases hz'; exact hzi h1
        have hbx : boxI m s.ls i j = [] := boxI_not hlead
        have hjl : j < s.ls.length := by have := hN.llen; rw [show (dlvS m s i a j).ls = drain m s.ls i j from rfl, drain_length] at this; omega
        have hss : dlvS m s i a (j + 1) = dlvS m s i a j := by
          unfold dlvS
          rw [drain_succ hjl, if_neg hlead]
          unfold taken
          rw [inbox_succ, hbx, List.append_nil]
        have Hss : Hid (dlvS m s i a (j + 1) = dlvS m s i a j) := hss
        have Hib : Hid (inbox m s.ls i (j + 1) = inbox m s.ls i j) := by show _ = _; rw [inbox_succ, hbx, List.append_nil]
        clear hss hbx
        go_wp2
        go_roundw
        case rel =>
          refine ⟨j + 1, V', p', by rw [Hib.out], by go_num, hlt, by rw [Hss.out]; exact hgod, hp', hqb, by rw [Hib.out]; exact hpu', hlv'⟩
        case measure => simp [intOf]; omega
    · have hje : j = m.links.length := by omega
      subst hje
      go_wp2
      go_ret
      exact ⟨rfl, V', hgo, p', hp', hqb⟩

end Go.Proofs.Ytaieackeflmhgaa

namespace Go.Proofs.Ytaieackeflmhgaa
open Go.RowKit Go.Sort Go.Maps

/-- what goes out goes along links that there are -/
theorem adv_links {m : Mdl} (hm : Right m) {num en : Int} {a : NP} (hw : ∀ w ∈ a.ws, 0 ≤ w.k ∧ w.k < m.links.length) : ∀ x ∈ (advP m num en a).2, 0 ≤ x.k ∧ x.k < m.links.length := by
  intro x hx
  rw [dA_all] at hx
  rcases List.mem_append.1 hx with h1 | h1
  · have : ∀ (l : List It) (b : NP) (y : Pcl), y ∈ (doAll m num en l (b, [])).2 → 0 ≤ y.k ∧ y.k < m.links.length := by
      intro l
      induction l with
      | nil => intro b y hy; simp [doAll] at hy
      | cons z l ih =>
        intro b y hy
        have e1 : doAll m num en (z :: l) (b, []) = doAll m num en l ((doP m num en b z).1, (doP m num en b z).2) := rfl
        rw [e1, doAll_out] at hy
        rcases List.mem_append.1 hy with hy | hy
        · unfold doP at hy
          obtain ⟨e, he, rfl⟩ := List.mem_map.1 hy
          obtain ⟨z', h2, h3, _⟩ := ruleOut_link hm (List.mem_filter.1 he).1
          have := get_lt h2
          show 0 ≤ e.k ∧ e.k < m.links.length
          omega
        · exact ih _ y hy
    exact this _ _ x h1
  · obtain ⟨w, h2, _, rfl⟩ := mem_wyO h1
    rw [(wyP_k en _ w).1]
    exact hw w h2

/-- what is asked of a state, for the program's numbers to be right -/
structure Sane (m : Mdl) (en : Int) (s : NS) (i : Nat) (a : NP) : Prop where
  srt : (toDo en (taken m s.ls i m.links.length a)).Pairwise It.lt
  ok : ∀ k, ∀ x ∈ s.ls.getD k [], PclOk x
  len : ∀ k, (s.ls.getD k []).length ≤ 40000
  tim : ∀ x ∈ (taken m s.ls i m.links.length a).q, 0 ≤ x.t ∧ x.t ≤ 200
  su0 : 0 ≤ hz en (taken m s.ls i m.links.length a).hr
  su1 : hz en (taken m s.ls i m.links.length a).hr ≤ en
  wk : ∀ w ∈ a.ws, 0 ≤ w.k ∧ w.k < m.links.length
  wa : ∀ w ∈ a.ws, 0 ≤ w.a ∧ w.a ≤ 60
  wl : a.ws.length ≤ 12
  se0 : 0 ≤ a.sent
  se1 : a.sent + 4 * (toDo en (taken m s.ls i m.links.length a)).length ≤ 5000
  dl : a.dn.length + a.q.length + (msgs (inbox m s.ls i m.links.length)).length ≤ 2000
  out : (advP m (i : Int) en (taken m s.ls i m.links.length a)).2.length ≤ 9000

theorem Sane.qlen {m : Mdl} {en : Int} {s : NS} {i : Nat} {a : NP} (h : Sane m en s i a) : (taken m s.ls i m.links.length a).dn.length + (taken m s.ls i m.links.length a).q.length ≤ 2000 := by
  have h1 := takeAll_keep (inbox m s.ls i m.links.length) a
  have h2 := (takeAll_q (inbox m s.ls i m.links.length) a).length_eq
  have h4 := h.dl
  unfold taken
  rw [h1.2.2.2, h2, List.length_append]
  omega

theorem und_lks : Try.prog.underlying 145 = some (.slice 159) := by kernel_rfl

set_option maxRecDepth 100000 in
set_option maxHeartbeats 16000000 in
theorem goOn_any (w : World) (nb : Nat) (m : Mdl) (en : Int) (s : NS) (V : NV) (i : Nat) (p : Pr) (a : NP) (h : NetAt w nb m en s V) (hm : Right m) (hen0 : 0 ≤ en) (hen : en ≤ 200) (hp : V.ps[i]? = some p) (ha : s.ps[i]? = some a) (hS : Sane m en s i a) :
    Calls Try.prog 56 #[.pointer (some ⟨nb, 0, none⟩), .pointer (some ⟨p.qb, 0, none⟩)] w fun e w' => e = .returned (.bool (goOnB m en s i)) ∧ ∃ V' : NV, NGo w w' nb m en (goOn m en s i) V V' ∧ ∃ p' : Pr, V'.ps[i]? = some p' ∧ p'.qb = p.qb := by
  have hrl0 := h.rel i p a hp ha
  have hil : i < s.ps.length := get_lt ha
  have hdlv := deliver_any w nb m en s V i p a h hm hp ha hS.ok (by rw [hrl0.pu]; have := hS.dl; omega) (fun k => by have := hS.len k; omega)
  obtain ⟨bx, hbx⟩ : ∃ bx, bx = (!(inbox m s.ls i m.links.length).isEmpty) := ⟨_, rfl⟩
  rw [← hbx] at hdlv
  have hB : goOnB m en s i = (bx || !(advP m (i : Int) en (taken m s.ls i m.links.length a)).2.isEmpty || !(toDo en (taken m s.ls i m.links.length a)).isEmpty) := by
    unfold goOnB; rw [ha, hbx]
  have hG : goOn m en s i = ⟨s.ps.set i (advP m (i : Int) en (taken m s.ls i m.links.length a)).1, send (drain m s.ls i m.links.length) (advP m (i : Int) en (taken m s.ls i m.links.length a)).2⟩ := by
    unfold goOn; rw [ha]
  have HB : Hid (goOnB m en s i = (bx || !(advP m (i : Int) en (taken m s.ls i m.links.length a)).2.isEmpty || !(toDo en (taken m s.ls i m.links.length a)).isEmpty)) := hB
  rw [hG]
  have htl := takeAll_keep (inbox m s.ls i m.links.length) a
  have htw : (taken m s.ls i m.links.length a).ws = a.ws := htl.1
  have hts : (taken m s.ls i m.links.length a).sent = a.sent := htl.2.2.1
  have htd : (taken m s.ls i m.links.length a).dn = a.dn := htl.2.2.2
  have hql := hS.qlen
  have hsr := hS.srt
  have htim := hS.tim
  have hs0 := hS.su0
  have hs1 := hS.su1
  have hse := hS.se1
  have hout := hS.out
  have hdS : dlvS m s i a m.links.length = ⟨s.ps.set i (taken m s.ls i m.links.length a), drain m s.ls i m.links.length⟩ := rfl
  rw [hdS] at hdlv
  clear hdS hB hG hbx
  generalize taken m s.ls i m.links.length a = b at *
  have Hab : Hid (b.dn.length = a.dn.length) := by show _ = _; rw [htd]
  have hlinks := adv_links hm (num := (i : Int)) (en := en) (a := b) (by rw [htw]; exact hS.wk)
  go_enter Try.func56, Try.ntmps56
  go_wp2_with fail
  refine hdlv.mono ?_
  rintro e1 w1 ⟨rfl, V1, hg1, p1, hp1, hq1⟩
  clear hdlv
  have hN1 := hg1.at_
  have hrl1 := hN1.rel i p1 b hp1 (List.getElem?_set_self hil)
  have hP1 := hN1.procs.each p1 (List.mem_of_getElem? hp1)
  obtain ⟨ad, cd, hdv, hcd⟩ := hP1.own.form'
  have c11 : w1.cell? ⟨p.qb, 11, none⟩ = some (.slice ad p1.dn.length cd) := by rw [← hq1, ← hdv]; exact hP1.cells.2.2.2
  have hdn1 : p1.dn.length = b.dn.length := by rw [hrl1.dn]
  rw [hdn1] at c11
  have hlq : p.qb < w1.heap.size := block_lt_of_cell c11
  have hadv := advance_any w1 V1.B V1.Bm V1.lv V1.rv m (V1.RS.map RuleS.v) en i p1 b hP1 hrl1 hN1.mod hm hN1.low hN1.bsz hen0 hen hsr htim hs0 hs1 (by rw [htw]; exact hS.wa) (by rw [htw]; exact hS.wl) (by rw [hts]; exact hS.se0) (by rw [hts]; exact hse) hql
  rw [hq1] at hadv
  have n0 : w1.cell? ⟨nb, 0, none⟩ = some (.int .i64 m.procs) := hN1.blk.cell 0
  have n1 : w1.cell? ⟨nb, 1, none⟩ = some (.int .i64 m.states) := hN1.blk.cell 1
  have n2 : w1.cell? ⟨nb, 2, none⟩ = some (.int .i64 m.loads) := hN1.blk.cell 2
  have n3 : w1.cell? ⟨nb, 3, none⟩ = some V1.lv := hN1.blk.cell 3
  have n4 : w1.cell? ⟨nb, 4, none⟩ = some V1.rv := hN1.blk.cell 4
  have n5 : w1.cell? ⟨nb, 5, none⟩ = some (.slice none 0 0) := hN1.blk.cell 5
  have hln := hN1.blk.lt
  clear hdv
  go_wp2_with fail
  refine hadv.mono ?_
  rintro e2 w2 ⟨v, p2, rfl, hO2, hpg2, hrl2, hvp2⟩
  clear hadv n0 n1 n2 n3 n4 n5 c11
  have hg2 := hg1.trans (hN1.turn hp1 hpg2 hrl2)
  simp only [List.set_set] at hg2
  obtain ⟨av, cv, hvf, hcv⟩ := hO2.form'
  obtain ⟨out, hoe⟩ : ∃ out, out = (advP m (i : Int) en b).2 := ⟨_, rfl⟩
  rw [← hoe] at hvf hcv hO2 hout hlinks
  subst hvf
  obtain ⟨V2, hV2⟩ : ∃ V2 : NV, V2 = { V1 with ps := V1.ps.set i p2 } := ⟨_, rfl⟩
  rw [← hV2] at hg2
  have hp2 : V2.ps[i]? = some p2 := by rw [hV2]; exact List.getElem?_set_self (get_lt hp1)
  have hq2 : p2.qb = p.qb := hpg2.qb.trans hq1
  have hvn2 : ∀ g, (Value.slice av out.length cv).ownBlock = some g → ¬ NF nb V2 g := fun g hg hf => by
    have h1 := (hO2.lt hg).1
    rw [hV2] at hf
    rcases hf with hf | hf | hf | ⟨u, hu, hf⟩
    · have := hN1.blk.lt; omega
    · have := hN1.garr.lt
      have hf : g = V1.gb := hf
      omega
    · rcases hf with hf | ⟨q, hq, hf⟩
      · have := hN1.procs.arr.lt
        have hf : g = V1.pb := hf
        omega
      · obtain ⟨j, hj⟩ := List.getElem?_of_mem hq
        rcases set_get hj with ⟨_, e⟩ | ⟨_, e⟩
        · subst e; exact hvp2 g hg hf
        · have := ((hN1.procs.each q (List.mem_of_getElem? e)).lt hf).2; omega
    · obtain ⟨j, hj⟩ := List.getElem?_of_mem hu
      have := ((hN1.each j u hj).lt hf).2; omega
  have hdn2 : p2.dn.length = b.dn.length + (toDo en b).length := by
    rw [hrl2.dn, dA_all]
    exact (dA_keep m (i : Int) en b _ (Nat.le_refl _)).2.2
  have hlen0 : ∀ k, ((drain m s.ls i m.links.length).getD k []).length ≤ 40000 := fun k => by
    rw [drain_get]
    split
    · simp
    · exact hS.len k
  have Hoe : Hid (out = (advP m (i : Int) en b).2) := hoe
  obtain ⟨ls0, hls0⟩ : ∃ ls0, ls0 = drain m s.ls i m.links.length := ⟨_, rfl⟩
  obtain ⟨ps0, hps0⟩ : ∃ ps0, ps0 = s.ps.set i (advP m (i : Int) en b).1 := ⟨_, rfl⟩
  rw [← hls0] at hg2 hlen0
  rw [← hps0] at hg2
  have hls0l : ls0.length = m.links.length := hg2.at_.llen
  have Hls0 : Hid (ls0 = drain m s.ls i m.links.length) := hls0
  have Hps0 : Hid (ps0 = s.ps.set i (advP m (i : Int) en b).1) := hps0
  obtain ⟨i0, hi0, hi1, hi2, hi3⟩ := info_parts info_em
  have hz1 : w1.heap.size ≤ w2.heap.size := hpg2.kept.size
  clear hoe hV2 hls0 hps0 hrl2 hpg2 hvp2 hP1 hrl1 hN1 hp1 hln hlq h hp ha hrl0 htw hts htd hsr htim hs0 hs1 hse hql htl hil hS
  have hg2' : NGo w w2 nb m en ⟨ps0, send ls0 (out.take 0)⟩ V V2 := by rw [List.take_zero]; exact hg2
  go_wp2
  go_loopw [26] (fun s26 wr => ∃ (j : Nat) (V3 : NV), s26 = .int .i64 j ∧ j ≤ out.length ∧ NGo w wr nb m en ⟨ps0, send ls0 (out.take j)⟩ V V3 ∧ V3.ps[i]? = some p2 ∧ Own pclE wr w1.heap.size (.slice av out.length cv) out ∧ (∀ g, (Value.slice av out.length cv).ownBlock = some g → ¬ NF nb V3 g)) (fun s26 _ => out.length - (intOf s26).toNat)
  case atStart => exact ⟨0, V2, rfl, Nat.zero_le _, hg2', hp2, hO2, hvn2⟩
  case round =>
    clear hg2 hg2' hp2 hO2 hvn2
    obtain ⟨j, V3, rfl, hj, hg3, hp3, hO3, hvn3⟩ := hrel
    have hN3 := hg3.at_
    by_cases hlt : j < out.length
    · obtain ⟨x, hx⟩ := get_of_lt hlt
      have hxl := hlinks x (List.mem_of_getElem? hx)
      obtain ⟨g, cap', hg, _⟩ := Own.at_ hO3 hx
      simp only [Value.slice.injEq] at hg
      obtain ⟨rfl, -, -⟩ := hg
      have a0 : wr.cell? ⟨g, j * 6, none⟩ = some (.int .i64 x.it.t) := hO3.cell hx (k := 0) (u := .int .i64 x.it.t) rfl
      have a1 : wr.cell? ⟨g, j * 6 + 1, none⟩ = some (.int .i64 x.it.f) := hO3.cell hx (k := 1) (u := .int .i64 x.it.f) rfl
      have a2 : wr.cell? ⟨g, j * 6 + 2, none⟩ = some (.int .i64 x.it.s) := hO3.cell hx (k := 2) (u := .int .i64 x.it.s) rfl
      have a3 : wr.cell? ⟨g, j * 6 + 3, none⟩ = some (.int .i64 x.it.l) := hO3.cell hx (k := 3) (u := .int .i64 x.it.l) rfl
      have a4 : wr.cell? ⟨g, j * 6 + 4, none⟩ = some (.int .i64 x.kd) := hO3.cell hx (k := 4) (u := .int .i64 x.kd) rfl
      have a5 : wr.cell? ⟨g, j * 6 + 5, none⟩ = some (.int .i64 x.k) := hO3.cell hx (k := 5) (u := .int .i64 x.k) rfl
      have hlg : g < wr.heap.size := block_lt_of_cell a0
      have Htk : Hid (out.take (j + 1) = out.take j ++ [x]) := by show _ = _; rw [List.take_add_one, hx]; rfl
      obtain ⟨wx, hwx⟩ : ∃ wx, wx = wr.alloc (.cells #[.int .i64 x.it.t, .int .i64 x.it.f, .int .i64 x.it.s, .int .i64 x.it.l, .int .i64 x.kd, .int .i64 x.k] 159) := ⟨_, rfl⟩
      have Hwx : Hid (wx = wr.alloc (.cells #[.int .i64 x.it.t, .int .i64 x.it.f, .int .i64 x.it.s, .int .i64 x.it.l, .int .i64 x.kd, .int .i64 x.k] 159)) := hwx
      have hKx : KeptF (fun _ => False) wr wx := by rw [hwx]; exact (KeptF.refl _ wr).alloc _
      have hxb : Blk wx wr.heap.size #[.int .i64 x.it.t, .int .i64 x.it.f, .int .i64 x.it.s, .int .i64 x.it.l, .int .i64 x.kd, .int .i64 x.k] 159 := by rw [hwx]; exact heap_alloc_new wr _
      clear hwx
      have hgx := hg3.grow hKx
      have hNx := hgx.at_
      have hOx := hO3.keep hKx (fun _ _ e => e)
      obtain ⟨k, hk⟩ : ∃ k : Nat, k = x.k.toNat := ⟨_, rfl⟩
      have hkx : x.k = (k : Int) := by omega
      have hkl : k < m.links.length := by omega
      obtain ⟨vk, hvk⟩ := get_of_lt (d := V3.gv) (k := k) (by rw [hNx.glen]; exact hkl)
      have hOk := hNx.each k vk hvk
      obtain ⟨lk, hlk⟩ : ∃ lk, lk = (send ls0 (out.take j)).getD k [] := ⟨_, rfl⟩
      have Hlk : Hid (lk = (send ls0 (out.take j)).getD k []) := hlk
      rw [show (⟨ps0, send ls0 (out.take j)⟩ : NS).ls = send ls0 (out.take j) from rfl, ← hlk] at hOk
      have hlkn : lk.length ≤ 49000 := by
        rw [hlk, send_get (fun y hy => by have := hlinks y (List.mem_of_mem_take hy); rw [hls0l]; omega), List.length_append]
        have h1 := hlen0 k
        have h2 := List.length_filter_le (fun x : Pcl => decide (x.k.toNat = k)) (out.take j)
        rw [List.length_take] at h2
        omega
      obtain ⟨ak, ck, hvkf, hck⟩ := hOk.form'
      subst hvkf
      obtain ⟨n, hn⟩ : ∃ n, n = lk.length := ⟨_, rfl⟩
      have Hn : Hid (n = lk.length) := hn
      rw [← hn] at hck hOk hvk hlkn
      have hvnk := hNx.vn _ (List.mem_of_getElem? hvk)
      have nown : (Value.slice ak n ck).ownBlock ≠ some wr.heap.size := fun e => by
        have := ((hN3.each k _ hvk).lt e).2; omega
      have hgb : V3.gb ≠ wr.heap.size := fun e => by have := hN3.garr.lt; omega
      have hgn : V3.gb ≠ nb := fun e => hNx.ng e.symm
      have N7 := Sp.cell (b0 := V3.gb) (o0 := k) (own := (Value.slice ak n ck).ownBlock) (v := .slice (some ⟨V3.gb, 0, none⟩) m.links.length m.links.length) (show wx.cell? ⟨nb, 7, none⟩ = _ from hNx.blk.cell 7) hvnk.1 (fun e => hgn e.1.symm)
      have X0 := Sp.cell (b0 := V3.gb) (o0 := k) (own := (Value.slice ak n ck).ownBlock) (v := .int .i64 x.it.t) (hxb.cell 0) nown (fun e => hgb e.1.symm)
      have X1 := Sp.cell (b0 := V3.gb) (o0 := k) (own := (Value.slice ak n ck).ownBlock) (v := .int .i64 x.it.f) (hxb.cell 1) nown (fun e => hgb e.1.symm)
      have X2 := Sp.cell (b0 := V3.gb) (o0 := k) (own := (Value.slice ak n ck).ownBlock) (v := .int .i64 x.it.s) (hxb.cell 2) nown (fun e => hgb e.1.symm)
      have X3 := Sp.cell (b0 := V3.gb) (o0 := k) (own := (Value.slice ak n ck).ownBlock) (v := .int .i64 x.it.l) (hxb.cell 3) nown (fun e => hgb e.1.symm)
      have X4 := Sp.cell (b0 := V3.gb) (o0 := k) (own := (Value.slice ak n ck).ownBlock) (v := .int .i64 x.kd) (hxb.cell 4) nown (fun e => hgb e.1.symm)
      have X5 := Sp.cell (b0 := V3.gb) (o0 := k) (own := (Value.slice ak n ck).ownBlock) (v := .int .i64 (k : Int)) (by rw [← hkx]; exact hxb.cell 5) nown (fun e => hgb e.1.symm)
      have KG : wx.cell? ⟨V3.gb, k, none⟩ = some (.slice ak n ck) := by rw [hNx.garr.cell, List.getElem?_toArray, hvk]
      have hlnx := hNx.blk.lt
      have hlgx : V3.gb < wx.heap.size := hNx.garr.lt
      have hlxx := hxb.lt
      have hcc := newCells wx [.int .i64 x.it.t, .int .i64 x.it.f, .int .i64 x.it.s, .int .i64 x.it.l, .int .i64 x.kd, .int .i64 (k : Int)] 159
      have hWW : KeptF (fun _ => False) wx ((wx.alloc (.cells #[.int .i64 x.it.t, .int .i64 x.it.f, .int .i64 x.it.s, .int .i64 x.it.l, .int .i64 x.kd, .int .i64 (k : Int)] 159)).drew) := ((KeptF.refl _ wx).alloc _).drew
      have hWl := hWW.size
      have hone : ∀ u ∈ ([.int .i64 x.it.t, .int .i64 x.it.f, .int .i64 x.it.s, .int .i64 x.it.l, .int .i64 x.kd, .int .i64 (k : Int)] : List Value), u.oneCell' = true := by
        intro u hu
        simp only [List.mem_cons, List.not_mem_nil, or_false] at hu
        rcases hu with rfl | rfl | rfl | rfl | rfl | rfl <;> rfl
      have hown0 : ((wx.alloc (.cells #[.int .i64 x.it.t, .int .i64 x.it.f, .int .i64 x.it.s, .int .i64 x.it.l, .int .i64 x.kd, .int .i64 (k : Int)] 159)).drew).ownsRow V3.B 159 6 (.slice ak n ck) n (flat pclE lk) := by
        rw [Hn.out]; rw [Hn.out] at hOk; exact hOk.keep hWW (fun _ _ e => e)
      have Hvk : Hid (V3.gv[k]? = some (.slice ak n ck)) := hvk
      have hB3 : V3.B ≤ wx.heap.size := hNx.bsz
      have Hkx : Hid (x.k = (k : Int)) := hkx
      have hkl2 : (k : Int) < m.links.length := by omega
      clear hx hvk hn hlk hk hNx hkx
      go_upto_region 7 with fail
      rw [← Hwx.out]
      clear a0 a1 a2 a3 a4 a5
      refine wp_region_held_drew (S := (fun W => Sp wx V3.gb k (Value.slice ak n ck).ownBlock W)) (by kernel_rfl) ?_ (fun hHeld => ?_)
      · (try dsimp only)
        (first | assumption | exact Sp.drew (by assumption) | exact Sp.of_kept ((KeptF.refl _ _).drew) | exact Sp.of_kept (((KeptF.refl _ _).alloc _).drew) | exact Sp.set (by assumption) _)
      refine takeL 0 (v := ?_) rfl (by kernel_rfl) (by kernel_rfl) (by kernel_rfl) (fun _ _ _ h => h) (by rfl) ?_ (by assumption) ?_
      rotate_left
      · intro w hSw
        (try dsimp only at hSw)
        go_simp
        all_goals with_reducible rfl
      try simp only [Act.put, List.setIfInBounds_toArray, List.set_cons_zero, List.set_cons_succ]
      refine takeL 1 (v := ?_) rfl (by kernel_rfl) (by kernel_rfl) (by kernel_rfl) (fun _ _ _ h => h) (by rfl) ?_ (by assumption) ?_
      rotate_left
      · intro w hSw
        (try dsimp only at hSw)
        go_simp
        all_goals with_reducible rfl
      try simp only [Act.put, List.setIfInBounds_toArray, List.set_cons_zero, List.set_cons_succ]
      refine takeL 2 (v := ?_) rfl (by kernel_rfl) (by kernel_rfl) (by kernel_rfl) (fun _ _ _ h => h) (by rfl) ?_ (by assumption) ?_
      rotate_left
      · intro w hSw
        (try dsimp only at hSw)
        go_simp
        all_goals with_reducible rfl
      try simp only [Act.put, List.setIfInBounds_toArray, List.set_cons_zero, List.set_cons_succ]
      refine takeL 3 (v := ?_) rfl (by kernel_rfl) (by kernel_rfl) (by kernel_rfl) (fun _ _ _ h => h) (by rfl) ?_ (by assumption) ?_
      rotate_left
      · intro w hSw
        (try dsimp only at hSw)
        go_simp
        all_goals with_reducible rfl
      try simp only [Act.put, List.setIfInBounds_toArray, List.set_cons_zero, List.set_cons_succ]
      refine takeL 4 (v := ?_) rfl (by kernel_rfl) (by kernel_rfl) (by kernel_rfl) (fun _ _ _ h => h) (by rfl) ?_ (by assumption) ?_
      rotate_left
      · intro w hSw
        (try dsimp only at hSw)
        go_simp
        all_goals with_reducible rfl
      try simp only [Act.put, List.setIfInBounds_toArray, List.set_cons_zero, List.set_cons_succ]
      refine takeL 5 (v := ?_) rfl (by kernel_rfl) (by kernel_rfl) (by kernel_rfl) (fun _ _ _ h => h) (by rfl) ?_ (by assumption) ?_
      rotate_left
      · intro w hSw
        (try dsimp only at hSw)
        go_simp
        all_goals with_reducible rfl
      try simp only [Act.put, List.setIfInBounds_toArray, List.set_cons_zero, List.set_cons_succ]
      refine takeL 6 (v := ?_) rfl (by kernel_rfl) (by kernel_rfl) (by kernel_rfl) (fun _ _ _ h => h) (by rfl) ?_ (by assumption) ?_
      rotate_left
      · intro w hSw
        (try dsimp only at hSw)
        go_simp
        all_goals with_reducible rfl
      try simp only [Act.put, List.setIfInBounds_toArray, List.set_cons_zero, List.set_cons_succ]
      refine takeL 7 (v := ?_) rfl (by kernel_rfl) (by kernel_rfl) (by kernel_rfl) (fun _ _ _ h => h) (by rfl) ?_ (by assumption) ?_
      rotate_left
      · intro w hSw
        (try dsimp only at hSw)
        go_simp
        all_goals with_reducible rfl
      try simp only [Act.put, List.setIfInBounds_toArray, List.set_cons_zero, List.set_cons_succ]
      refine takeL 8 (v := ?_) rfl (by kernel_rfl) (by kernel_rfl) (by kernel_rfl) (fun _ _ _ h => h) (by rfl) ?_ (by assumption) ?_
      rotate_left
      · intro w hSw
        (try dsimp only at hSw)
        go_simp
        all_goals with_reducible rfl
      try simp only [Act.put, List.setIfInBounds_toArray, List.set_cons_zero, List.set_cons_succ]
      refine takeL 9 (v := ?_) rfl (by kernel_rfl) (by kernel_rfl) (by kernel_rfl) (fun _ _ _ h => h) (by rfl) ?_ (by assumption) ?_
      rotate_left
      · intro w hSw
        (try dsimp only at hSw)
        go_simp
        all_goals with_reducible rfl
      try simp only [Act.put, List.setIfInBounds_toArray, List.set_cons_zero, List.set_cons_succ]
      refine takeL 10 (v := ?_) rfl (by kernel_rfl) (by kernel_rfl) (by kernel_rfl) (fun _ _ _ h => h) (by rfl) ?_ (by assumption) ?_
      rotate_left
      · intro w hSw
        (try dsimp only at hSw)
        go_simp
        all_goals with_reducible rfl
      try simp only [Act.put, List.setIfInBounds_toArray, List.set_cons_zero, List.set_cons_succ]
      refine takeL 11 (v := ?_) rfl (by kernel_rfl) (by kernel_rfl) (by kernel_rfl) (fun _ _ _ h => h) (by rfl) ?_ (by assumption) ?_
      rotate_left
      · intro w hSw
        (try dsimp only at hSw)
        go_simp
        all_goals with_reducible rfl
      try simp only [Act.put, List.setIfInBounds_toArray, List.set_cons_zero, List.set_cons_succ]
      refine takeL 12 (v := ?_) rfl (by kernel_rfl) (by kernel_rfl) (by kernel_rfl) (fun _ _ _ h => h) (by rfl) ?_ (by assumption) ?_
      rotate_left
      · intro w hSw
        (try dsimp only at hSw)
        go_simp
        all_goals with_reducible rfl
      try simp only [Act.put, List.setIfInBounds_toArray, List.set_cons_zero, List.set_cons_succ]
      refine takeL 14 (v := ?_) rfl (by kernel_rfl) (by kernel_rfl) (by kernel_rfl) (fun _ _ _ h => h) (by rfl) ?_ (by assumption) ?_
      rotate_left
      · intro w hSw
        (try dsimp only at hSw)
        go_simp
        all_goals with_reducible rfl
      try simp only [Act.put, List.setIfInBounds_toArray, List.set_cons_zero, List.set_cons_succ]
      refine wpAnyH_ready (rs := [13, 15]) (by kernel_rfl) (by simp) ?_
      refine consL rfl (fun K hK => ?_) (consL rfl (fun K hK => ?_) AllReadyH.nil)
      go_simp
      refine hK.out _ _ ?_ (fun hHeld => ?_)
      · (try dsimp only)
        (first | assumption | exact Sp.drew (by assumption) | exact Sp.of_kept ((KeptF.refl _ _).drew) | exact Sp.of_kept (((KeptF.refl _ _).alloc _).drew) | exact Sp.set (by assumption) _)
      clear hK K
      try simp only [Act.put, List.setIfInBounds_toArray, List.set_cons_zero, List.set_cons_succ]
      refine wpAnyH_ready (rs := [15]) (by kernel_rfl) (by simp) ?_
      refine consL rfl (fun K hK => ?_) AllReadyH.nil
      go_simp
      refine hK.out _ _ ?_ (fun hHeld => ?_)
      · (try dsimp only)
        (first | assumption | exact Sp.drew (by assumption) | exact Sp.of_kept ((KeptF.refl _ _).drew) | exact Sp.of_kept (((KeptF.refl _ _).alloc _).drew) | exact Sp.set (by assumption) _)
      clear hK K
      try simp only [Act.put, List.setIfInBounds_toArray, List.set_cons_zero, List.set_cons_succ]
      refine wpAnyH_ready (rs := [16]) (by kernel_rfl) (by simp) ?_
      refine consL rfl (fun K hK => ?_) AllReadyH.nil
      refine step_append_own rfl (.tmp 43) (.tmp 45) 145 rfl V3.B 159 i0 _ 6 48 und_lks hi0 hi1 hi2 hi3 rfl (by decide) (.slice ak n ck) n (flat pclE lk) (by simp [Act.eval]) ?_ ⟨wx.heap.size, 0, none⟩ 1 1 [.int .i64 x.it.t, .int .i64 x.it.f, .int .i64 x.it.s, .int .i64 x.it.l, .int .i64 x.kd, .int .i64 (k : Int)] (by simp [Act.eval]) rfl ?_ ?_ ?_ ?_ ?_ ?_
      · exact hown0
      · exact hcc
      · exact hone
      · unfold maxLen; omega
      · omega
      · exact Nat.le_trans hB3 hWl
      intro v2 w2 hown2 hgr2 hfr2
      have hK2 : KeptF (fun r => (Value.slice ak n ck).ownBlock = some r) wx w2 := (hWW.weaken (fun _ _ e => e.elim)).trans (KeptF.of_grown hgr2 (fun k h _ => h))
      have hS2 : Sp wx V3.gb k (Value.slice ak n ck).ownBlock w2 := Sp.of_kept hK2
      have hO2 : Own pclE w2 V3.B v2 (lk ++ [x]) := by
        refine Own.snoc (x := x) ?_
        rw [← Hn.out]
        have e1 : pclE.enc x = [.int .i64 x.it.t, .int .i64 x.it.f, .int .i64 x.it.s, .int .i64 x.it.l, .int .i64 x.kd, .int .i64 (k : Int)] := by show pcC x = _; unfold pcC; rw [Hkx.out]
        rw [e1]; exact hown2
      have hgb2 := hgx.at_.garr.keep hK2 hvnk.2.1
      have hcgb : w2.cell? ⟨V3.gb, k, none⟩ = some (.slice ak n ck) := by rw [hgb2.cell, List.getElem?_toArray, Hvk.out]
      have hfgb : w2.frozen? ⟨V3.gb, k, none⟩ = false := hgb2.frozen _
      obtain ⟨ao2, cap2, hv2, hcap2⟩ := hO2.form'
      rw [List.length_append, ← Hn.out] at hv2
      have hv2 : v2 = .slice ao2 (n + 1) cap2 := hv2
      subst hv2
      refine hK.out _ _ ?_ (fun hHeld => ?_)
      · (try dsimp only)
        (first | assumption | exact Sp.drew (by assumption) | exact Sp.of_kept ((KeptF.refl _ _).drew) | exact Sp.of_kept (((KeptF.refl _ _).alloc _).drew) | exact Sp.set (by assumption) _)
      clear hK K
      try simp only [Act.put, List.setIfInBounds_toArray, List.set_cons_zero, List.set_cons_succ]
      refine takeL 17 (v := ?_) rfl (by kernel_rfl) (by kernel_rfl) (by kernel_rfl) (fun _ _ _ h => h) (by rfl) ?_ (by assumption) ?_
      rotate_left
      · intro w hSw
        (try dsimp only at hSw)
        go_simp
        all_goals with_reducible rfl
      try simp only [Act.put, List.setIfInBounds_toArray, List.set_cons_zero, List.set_cons_succ]
      refine wpAnyH_ready (rs := [18]) (by kernel_rfl) (by simp) ?_
      refine consL rfl (fun K hK => ?_) AllReadyH.nil
      go_simp
      refine hK.out _ _ ?_ (fun hHeld => ?_)
      · (try dsimp only)
        (first | assumption | exact Sp.drew (by assumption) | exact Sp.of_kept ((KeptF.refl _ _).drew) | exact Sp.of_kept (((KeptF.refl _ _).alloc _).drew) | exact Sp.set (by assumption) _)
      clear hK K
      try simp only [Act.put, List.setIfInBounds_toArray, List.set_cons_zero, List.set_cons_succ]
      refine wpAnyH_done (by kernel_rfl) ?_ _
      rotate_left 1
      go_simp
      refine hK.out _ _ ?_ (fun hHeld => ?_)
      · (try dsimp only)
        (first | assumption | exact Sp.drew (by assumption) | exact Sp.of_kept ((KeptF.refl _ _).drew) | exact Sp.of_kept (((KeptF.refl _ _).alloc _).drew) | exact Sp.set (by assumption) _)
      clear hK K
      try simp only [Act.put, List.setIfInBounds_toArray, List.set_cons_zero, List.set_cons_succ]
      refine wpAnyH_ready (rs := [13]) (by kernel_rfl) (by simp) ?_
      refine consL rfl (fun K hK => ?_) AllReadyH.nil
      go_simp
      refine hK.out _ _ ?_ (fun hHeld => ?_)
      · (try dsimp only)
        (first | assumption | exact Sp.drew (by assumption) | exact Sp.of_kept ((KeptF.refl _ _).drew) | exact Sp.of_kept (((KeptF.refl _ _).alloc _).drew) | exact Sp.set (by assumption) _)
      clear hK K
      try simp only [Act.put, List.setIfInBounds_toArray, List.set_cons_zero, List.set_cons_succ]
      refine wpAnyH_ready (rs := [16]) (by kernel_rfl) (by simp) ?_
      refine consL rfl (fun K hK => ?_) AllReadyH.nil
      refine step_append_own rfl (.tmp 43) (.tmp 45) 145 rfl V3.B 159 i0 _ 6 48 und_lks hi0 hi1 hi2 hi3 rfl (by decide) (.slice ak n ck) n (flat pclE lk) (by simp [Act.eval]) ?_ ⟨wx.heap.size, 0, none⟩ 1 1 [.int .i64 x.it.t, .int .i64 x.it.f, .int .i64 x.it.s, .int .i64 x.it.l, .int .i64 x.kd, .int .i64 (k : Int)] (by simp [Act.eval]) rfl ?_ ?_ ?_ ?_ ?_ ?_
      · exact hown0
      · exact hcc
      · exact hone
      · unfold maxLen; omega
      · omega
      · exact Nat.le_trans hB3 hWl
      intro v2 w2 hown2 hgr2 hfr2
      have hK2 : KeptF (fun r => (Value.slice ak n ck).ownBlock = some r) wx w2 := (hWW.weaken (fun _ _ e => e.elim)).trans (KeptF.of_grown hgr2 (fun k h _ => h))
      have hS2 : Sp wx V3.gb k (Value.slice ak n ck).ownBlock w2 := Sp.of_kept hK2
      have hO2 : Own pclE w2 V3.B v2 (lk ++ [x]) := by
        refine Own.snoc (x := x) ?_
        rw [← Hn.out]
        have e1 : pclE.enc x = [.int .i64 x.it.t, .int .i64 x.it.f, .int .i64 x.it.s, .int .i64 x.it.l, .int .i64 x.kd, .int .i64 (k : Int)] := by show pcC x = _; unfold pcC; rw [Hkx.out]
        rw [e1]; exact hown2
      have hgb2 := hgx.at_.garr.keep hK2 hvnk.2.1
      have hcgb : w2.cell? ⟨V3.gb, k, none⟩ = some (.slice ak n ck) := by rw [hgb2.cell, List.getElem?_toArray, Hvk.out]
      have hfgb : w2.frozen? ⟨V3.gb, k, none⟩ = false := hgb2.frozen _
      obtain ⟨ao2, cap2, hv2, hcap2⟩ := hO2.form'
      rw [List.length_append, ← Hn.out] at hv2
      have hv2 : v2 = .slice ao2 (n + 1) cap2 := hv2
      subst hv2
      refine hK.out _ _ ?_ (fun hHeld => ?_)
      · (try dsimp only)
        (first | assumption | exact Sp.drew (by assumption) | exact Sp.of_kept ((KeptF.refl _ _).drew) | exact Sp.of_kept (((KeptF.refl _ _).alloc _).drew) | exact Sp.set (by assumption) _)
      clear hK K
      try simp only [Act.put, List.setIfInBounds_toArray, List.set_cons_zero, List.set_cons_succ]
      refine takeL 17 (v := ?_) rfl (by kernel_rfl) (by kernel_rfl) (by kernel_rfl) (fun _ _ _ h => h) (by rfl) ?_ (by assumption) ?_
      rotate_left
      · intro w hSw
        (try dsimp only at hSw)
        go_simp
        all_goals with_reducible rfl
      try simp only [Act.put, List.setIfInBounds_toArray, List.set_cons_zero, List.set_cons_succ]
      refine wpAnyH_ready (rs := [18]) (by kernel_rfl) (by simp) ?_
      refine consL rfl (fun K hK => ?_) AllReadyH.nil
      go_simp
      refine hK.out _ _ ?_ (fun hHeld => ?_)
      · (try dsimp only)
        (first | assumption | exact Sp.drew (by assumption) | exact Sp.of_kept ((KeptF.refl _ _).drew) | exact Sp.of_kept (((KeptF.refl _ _).alloc _).drew) | exact Sp.set (by assumption) _)
      clear hK K
      try simp only [Act.put, List.setIfInBounds_toArray, List.set_cons_zero, List.set_cons_succ]
      refine wpAnyH_done (by kernel_rfl) ?_ _
      rotate_left 1
      all_goals
        have hng := hgx.at_.setLink (k := k) (v := .slice ak n ck) (v' := .slice ao2 (n + 1) cap2) (l' := lk ++ [x]) Hvk.out hK2 hO2 (fun r hr => by
          rcases hfr2 r hr with h1 | h1
          · exact .inl h1
          · exact .inr (Nat.le_trans hWl h1))
        have hngf := hgx.trans hng
        have hsf : (⟨(⟨ps0, send ls0 (out.take j)⟩ : NS).ps, (⟨ps0, send ls0 (out.take j)⟩ : NS).ls.set k (lk ++ [x])⟩ : NS) = ⟨ps0, send ls0 (out.take (j + 1))⟩ := by
          rw [Htk.out, send_append]
          show _ = (⟨ps0, send1 (send ls0 (out.take j)) x⟩ : NS)
          unfold send1
          rw [show x.k.toNat = k by rw [Hkx.out]; simp, ← Hlk.out]
        rw [hsf] at hngf
        have Hngf : Hid (NGo w (w2.setCell ⟨V3.gb, k, none⟩ (.slice ao2 (n + 1) cap2)) nb m en ⟨ps0, send ls0 (out.take (j + 1))⟩ V { V3 with gv := V3.gv.set k (.slice ao2 (n + 1) cap2) }) := hngf
        have hvl : (Value.slice (some ⟨g, 0, none⟩) out.length cv).ownBlock = some g := rfl
        have hO5 : Own pclE (w2.setCell ⟨V3.gb, k, none⟩ (.slice ao2 (n + 1) cap2)) w1.heap.size (.slice (some ⟨g, 0, none⟩) out.length cv) out := hOx.keep hng.kept (fun r hr hf => by
          have h1 := hvn3 r hr
          exact h1 hf)
        have hvn5 : ∀ r, (Value.slice (some ⟨g, 0, none⟩) out.length cv).ownBlock = some r → ¬ NF nb { V3 with gv := V3.gv.set k (.slice ao2 (n + 1) cap2) } r := fun r hr hf => by
          rcases hng.foot r hf with h1 | h1
          · exact hvn3 r hr h1
          · have := (hOx.lt hr).2; omega
        clear hngf hsf hng hown2 hgr2 hfr2 hown0 hcc hone hOx hgx hN3 hO3 hg3
        go_wp2
        go_roundw
        case rel => exact ⟨j + 1, _, by go_num, hlt, Hngf.out, hp3, hO5, hvn5⟩
        case measure => simp [intOf]; omega
    · have hje : j = out.length := by omega
      subst hje
      rw [List.take_of_length_le (Nat.le_refl _), Hoe.out, Hls0.out, Hps0.out] at hg3
      have hPp := hN3.procs.each p2 (List.mem_of_getElem? hp3)
      obtain ⟨ae, ce, hdv, hce⟩ := hPp.own.form'
      have c11 : wr.cell? ⟨p.qb, 11, none⟩ = some (.slice ae p2.dn.length ce) := by rw [← hq2, ← hdv]; exact hPp.cells.2.2.2
      rw [hdn2] at c11
      have hlq2 : p.qb < wr.heap.size := block_lt_of_cell c11
      have hbo : out.isEmpty = decide (out.length = 0) := by cases out <;> simp
      have htdo : (toDo en b).isEmpty = decide ((toDo en b).length = 0) := by cases toDo en b <;> simp
      have HB2 : Hid (goOnB m en s i = (bx || !decide (out.length = 0) || !decide ((toDo en b).length = 0))) := by
        show _ = _
        rw [HB.out, ← Hoe.out, hbo, htdo]
      clear hbo htdo hPp hdv hdn2 hN3 hO3 hvn3 hlen0
      have Hg3 : Hid (NGo w wr nb m en ⟨s.ps.set i (advP m (i : Int) en b).1, send (drain m s.ls i m.links.length) (advP m (i : Int) en b).2⟩ V V3) := hg3
      clear hg3
      cases bx with
      | true =>
        go_wp2
        all_goals
          go_ret
          refine ⟨?_, V3, Hg3.out, p2, hp3, hq2⟩
          rw [HB2.out]
          simp
      | false =>
        by_cases hno : out.length = 0
        · by_cases hnt : (toDo en b).length = 0
          · rw [hnt] at c11
            go_wp2
            all_goals
              go_ret
              refine ⟨?_, V3, Hg3.out, p2, hp3, hq2⟩
              rw [HB2.out, hno, hnt]
              have := Hab.out
              simp
              omega
          · go_wp2
            all_goals
              go_ret
              refine ⟨?_, V3, Hg3.out, p2, hp3, hq2⟩
              rw [HB2.out, hno]
              have := Hab.out
              simp [hnt]
              omega
        · go_wp2
          all_goals
            go_ret
            refine ⟨?_, V3, Hg3.out, p2, hp3, hq2⟩
            rw [HB2.out]
            simp [hno]
            try omega

end Go.Proofs.Ytaieackeflmhgaa

namespace Go.Proofs.Ytaieackeflmhgaa
open Go.RowKit Go.Sort Go.Maps

/-- what happens, and that it is little -/
structure Env (m : Mdl) (en : Int) (F : Nat → List It) (C : Nat → List Int) : Prop where
  hm : Right m
  hen0 : 0 ≤ en
  hen : en ≤ 200
  hF : Full m en F C
  pos : ∀ p, p < np m → ∀ x ∈ F p, 0 ≤ x.t
  tot : sumN ((List.range (np m)).map (fun p => (F p).length)) ≤ 300

theorem sumN_ge : ∀ {l : List Nat} {i x : Nat}, l[i]? = some x → x ≤ sumN l
  | [], i, x, h => by simp at h
  | y :: l, 0, x, h => by
    simp only [List.getElem?_cons_zero, Option.some.injEq] at h
    subst h; rw [sumN_cons]; omega
  | y :: l, i + 1, x, h => by
    simp only [List.getElem?_cons_succ] at h
    have := sumN_ge h
    rw [sumN_cons]; omega
theorem Env.len {m : Mdl} {en : Int} {F : Nat → List It} {C : Nat → List Int} (E : Env m en F C) : ∀ p, p < np m → (F p).length ≤ 300 := fun p hp => by
  have : ((List.range (np m)).map (fun p => (F p).length))[p]? = some (F p).length := by rw [List.getElem?_map, List.getElem?_range hp]; rfl
  have := sumN_ge this
  have := E.tot
  omega
theorem ems_len {m : Mdl} (hm : Right m) (q : Int) : ∀ (l : List It) (s : Int × Int) (i : Nat), (∀ x ∈ l, 0 ≤ x.t ∧ x.t < 200) → (emsFrom m q s i l).length ≤ 4 * l.length
  | [], _, _, _ => by simp [emsFrom]
  | x :: l, s, i, h => by
    have ih := ems_len hm q l (stepP m q s x) (i + 1) (fun y hy => h y (by simp [hy]))
    have hx := h x (by simp)
    have := (ruleOut_ok hm (num := q) (st := s.1) (sent := s.2) hx.1 hx.2).1
    simp only [emsFrom, List.length_append, List.length_map, List.length_cons]
    omega
theorem flat_len {α : Type} {f : Nat → List α} {g : Nat → Nat} : ∀ {n : Nat}, (∀ q, q < n → (f q).length ≤ 4 * g q) → ((List.range n).flatMap f).length ≤ 4 * sumN ((List.range n).map g)
  | 0, _ => by simp [sumN]
  | n + 1, h => by
    have ih := flat_len (n := n) (fun q hq => h q (by omega))
    have := h n (by omega)
    rw [List.range_succ, List.flatMap_append, List.map_append, sumN_append, List.length_append]
    simp only [List.flatMap_cons, List.flatMap_nil, List.append_nil, List.map_cons, List.map_nil, sumN_cons]
    omega
theorem run_sent {m : Mdl} (hm : Right m) (q : Int) : ∀ (l : List It) (s : Int × Int), (∀ x ∈ l, 0 ≤ x.t ∧ x.t < 200) → s.2 ≤ (l.foldl (stepP m q) s).2 ∧ (l.foldl (stepP m q) s).2 ≤ s.2 + 4 * (l.length : Int)
  | [], s, _ => by simp
  | x :: l, s, h => by
    have ih := run_sent hm q l (stepP m q s x) (fun y hy => h y (by simp [hy]))
    have hx := h x (by simp)
    have h1 := (ruleOut_ok hm (num := q) (st := s.1) (sent := s.2) hx.1 hx.2).1
    have h2 := ruleOut_len m q s.1 s.2 x
    have h3 : (stepP m q s x).2 = (ruleOut m q s.1 s.2 x).2.2 := rfl
    rw [List.foldl_cons]
    simp only [List.length_cons]
    omega

section
variable {m : Mdl} {en : Int} {F : Nat → List It} {C : Nat → List Int} {N : Nat → Nat} {s : NS}

theorem Env.cut_times (E : Env m en F C) {p : Nat} (hp : p < np m) : ∀ x ∈ cutI F N p, 0 ≤ x.t ∧ x.t < 200 := fun x hx => by
  have h1 : x ∈ F p := List.mem_of_mem_take hx
  have h2 := E.pos p hp x h1
  have h3 := E.hF.low p hp x h1
  have := E.hen
  omega
theorem Env.gen_len (E : Env m en F C) (N : Nat → Nat) : (genAll m (cutI F N)).length ≤ 1212 := by
  unfold genAll
  rw [List.length_append, List.length_mapIdx]
  have h1 := E.hm.lim.ns
  have h2 := flat_len (f := fun q : Nat => emsP m (q : Int) (cutI F N q)) (g := fun q => (cutI F N q).length) (n := np m) (fun q hq => ems_len E.hm _ _ _ _ (E.cut_times hq))
  have h3 := (sum_all (f := fun q => (cutI F N q).length) (g := fun q => (F q).length) (n := np m) (fun q _ => by show (cutI F N q).length ≤ _; unfold cutI; rw [List.length_take]; omega)).1
  have := E.tot
  omega
theorem NInv.waits_len (E : Env m en F C) (h : NInv m en F N s) {p : Nat} {a : NP} (hp : s.ps[p]? = some a) : a.dn.length + a.q.length + (msgs (inbox m s.ls p m.links.length)).length ≤ 1212 := by
  have hpn : p < np m := by rw [← h.lp]; exact get_lt hp
  have h1 := (h.pi p a hp).has.length_eq
  have h2 := E.gen_len N
  have h3 : (atP p (genE m en (cutI F N))).length ≤ (genAll m (cutI F N)).length := by
    unfold atP genE
    rw [List.length_map]
    exact Nat.le_trans (List.length_filter_le _ _) (List.length_filter_le _ _)
  have h4 := h.dn_len hp
  have h5 : (cutI F N p).length = N p := by
    unfold cutI; rw [List.length_take]; have := h.nle p hpn; omega
  rw [List.length_append, List.length_append] at h1
  unfold transit at h1
  omega

theorem sane_of (E : Env m en F C) (h : NInv m en F N s) (hr : rest en s ≤ 39000) {i : Nat} {a : NP} (hp : s.ps[i]? = some a) : Sane m en s i a := by
  have hpn : i < np m := by rw [← h.lp]; exact get_lt hp
  have h1 := h.deliver E.hm E.hen hp
  have hp1 : (⟨s.ps.set i (taken m s.ls i m.links.length a), drain m s.ls i m.links.length⟩ : NS).ps[i]? = some (taken m s.ls i m.links.length a) := List.getElem?_set_self (get_lt hp)
  have hP1 := h1.pi i _ hp1
  have hP := h.pi i a hp
  have hHz := h1.hzIs E.hm hp1
  obtain ⟨N', hW⟩ := h.went E.hm E.hen0 E.hen E.hF hp
  have hmine := hW.mine
  have hle := hW.inv.nle i hpn
  have h300 := E.len i hpn
  have hen := E.hen
  have hws : a.ws.length ≤ 12 := by
    have := congrArg List.length hP.wys
    rw [List.length_map, List.length_map] at this
    have h2 := ways0_length m (i : Int) m.links.length
    have := E.hm.lim.nl
    omega
  have hsent : a.sent = (runP m (i : Int) (cutI F N i)).2 := by rw [← hP.run]
  have hrs := run_sent E.hm (i : Int) (cutI F N i) (0, 0) (E.cut_times hpn)
  have hcl : (cutI F N i).length = N i := by unfold cutI; rw [List.length_take]; have := h.nle i hpn; omega
  have htd : ∀ x ∈ toDo en (taken m s.ls i m.links.length a), 0 ≤ x.t ∧ x.t < 200 := fun x hx => by
    have h2 := toDo_mem hx
    have h3 := hP1.tim x h2.1
    have := hHz.top
    omega
  refine ⟨?_, fun k x hx => ?_, fun k => ?_, hP1.tim, ?_, hHz.top, fun w hw => ?_, fun w hw => ?_, hws, ?_, ?_, ?_, ?_⟩
  · refine srtI_srt ((h1.uq hp1).sub ?_)
    exact (List.filter_sublist.trans (List.sublist_append_left _ _)).trans (List.sublist_append_left _ _)
  · have hk : k < m.links.length := by
      rcases Nat.lt_or_ge k m.links.length with h2 | h2
      · exact h2
      · rw [List.getD_eq_getElem?_getD, List.getElem?_eq_none (by rw [h.ll]; exact h2)] at hx
        simp at hx
    obtain ⟨z, hz⟩ := get_of_lt hk
    have hnl := E.hm.lim.nl
    obtain ⟨h2, h3⟩ := h.lnk k z hz x hx
    rcases h3 with h3 | h3 | h3
    · exact ⟨.inl h3.1, ⟨by omega, by omega⟩, fun _ => ⟨h3.2.1, by omega⟩⟩
    · exact ⟨.inr (.inl h3.1), ⟨by omega, by omega⟩, fun _ => ⟨h3.2.1, by omega⟩⟩
    · exact ⟨.inr (.inr h3.1), ⟨by omega, by omega⟩, fun e => absurd h3.1 e⟩
  · cases hk : s.ls[k]? with
    | none => rw [List.getD_eq_getElem?_getD, hk]; simp
    | some l =>
      rw [getD_some hk]
      have : (s.ls.map List.length)[k]? = some l.length := by rw [List.getElem?_map, hk]; rfl
      have := sumN_ge this
      unfold rest at hr
      omega
  · rcases hHz.one with e | ⟨k, hk⟩
    · rw [e]; exact E.hen0
    · exact (hP1.hrd k _ hk).2.2.1
  · obtain ⟨j, z, h2, _, h3, _⟩ := hP.ways hw
    have := get_lt h2
    omega
  · obtain ⟨j, z, h2, _, _, h3⟩ := hP.ways hw
    have := E.hm.link h2
    omega
  · rw [hsent]; unfold runP; exact hrs.1
  · rw [hsent]
    unfold runP
    have := hrs.2
    simp only at this
    omega
  · have := h.waits_len E hp; omega
  · rw [dA_all, List.length_append]
    have h2 := doAll_len m (i : Int) en E.hm (toDo en (taken m s.ls i m.links.length a)) (taken m s.ls i m.links.length a) htd
    have h3 := wyO_length en (hz en (taken m s.ls i m.links.length a).hr) (taken m s.ls i m.links.length a).ws
    have h4 : (taken m s.ls i m.links.length a).ws = a.ws := (takeAll_keep _ a).1
    rw [h4] at h3
    have h5 : (dA m (i : Int) en (taken m s.ls i m.links.length a) (toDo en (taken m s.ls i m.links.length a)).length).2 = (doAll m (i : Int) en (toDo en (taken m s.ls i m.links.length a)) (taken m s.ls i m.links.length a, [])).2 := by unfold dA; rw [List.take_length]
    rw [h5, h4]
    omega

theorem sumN_le {c : Nat} : ∀ {l : List Nat}, (∀ x ∈ l, x ≤ c) → sumN l ≤ c * l.length
  | [], _ => by simp [sumN]
  | x :: l, h => by
    have := sumN_le (l := l) (fun y hy => h y (by simp [hy]))
    have := h x (by simp)
    rw [sumN_cons, List.length_cons, Nat.mul_add]
    omega
theorem rest_open (hm : Right m) (hen0 : 0 ≤ en) (hen : en ≤ 200) : rest en (openN m) ≤ 39000 := by
  have hnp : np m ≤ 6 := by have := hm.lim.p2; unfold np; omega
  have hnl := hm.lim.nl
  have h2 : ∀ p, npR en (openP m p) ≤ 6324 := fun p => by
    unfold npR
    have h3 : sumN ((openP m p).ws.map (wyR en)) ≤ 201 * ((openP m p).ws.map (wyR en)).length := sumN_le (fun x hx => by
      obtain ⟨w, hw, rfl⟩ := List.mem_map.1 hx
      obtain ⟨_, _, _, _, _, _, _, h4⟩ := ways0_mem (show w ∈ ways0 m (p : Int) m.links.length from hw)
      unfold wyR
      omega)
    have h4 := ways0_length m (p : Int) m.links.length
    rw [List.length_map] at h3
    have h5 : (openP m p).ws.length = (ways0 m (p : Int) m.links.length).length := rfl
    have h6 : (openP m p).dn.length = 0 := rfl
    omega
  have h1 : sumN ((openN m).ps.map (npR en)) ≤ 6324 * ((openN m).ps.map (npR en)).length := sumN_le (fun x hx => by
    obtain ⟨a, ha, rfl⟩ := List.mem_map.1 hx
    obtain ⟨p, _, rfl⟩ := List.mem_map.1 (show a ∈ (List.range (np m)).map (openP m) from ha)
    exact h2 p)
  have h3 : ((openN m).ps.map (npR en)).length = np m := by simp [openN]
  have h4 : sumN ((openN m).ls.map List.length) ≤ 0 * ((openN m).ls.map List.length).length := sumN_le (fun x hx => by
    obtain ⟨l, hl, rfl⟩ := List.mem_map.1 hx
    rw [(List.mem_replicate.1 (show l ∈ List.replicate m.links.length ([] : List Pcl) from hl)).2]
    simp)
  unfold rest
  rw [h3] at h1
  omega

/-- a state that steps lead to -/
def Good (m : Mdl) (en : Int) (F : Nat → List It) (N : Nat → Nat) (s : NS) : Prop := NInv m en F N s ∧ rest en s ≤ 39000
theorem good_open (E : Env m en F C) : Good m en F (fun _ => 0) (openN m) := ⟨ninv_open E.hm E.hen0 E.pos, rest_open E.hm E.hen0 E.hen⟩
theorem rest_itr (E : Env m en F C) {p : Nat} : ∀ (k : Nat) {N : Nat → Nat} {s : NS}, NInv m en F N s → p < np m → (∀ i, i < k → goOnB m en (itr m en p i s) p = true) → rest en (itr m en p k s) + k ≤ rest en s
  | 0, _, _, _, _, _ => Nat.le_refl _
  | k + 1, N, s, h, hp, hB => by
    obtain ⟨a, ha⟩ := get_of_lt (d := s.ps) (k := p) (by rw [h.lp]; exact hp)
    obtain ⟨N1, hW⟩ := h.went E.hm E.hen0 E.hen E.hF ha
    have h1 := rest_itr E k hW.inv hp (fun i hi => hB (i + 1) (by omega))
    have h2 := rest_falls E.hm E.hen0 E.hen E.hF E.len h (hB 0 (by omega))
    have h3 : itr m en p 0 s = s := rfl
    show rest en (itr m en p k (goOn m en s p)) + (k + 1) ≤ rest en s
    omega
theorem Good.stepped (E : Env m en F C) (h : Good m en F N s) {p : Nat} (hp : p < np m) {s' : NS} {b : Bool} (hs : Stepped m en s s' p b) : ∃ N', Moved m en F N N' s s' p ∧ Good m en F N' s' := by
  obtain ⟨N', hM⟩ := h.1.stepped E.hm E.hen0 E.hen E.hF hp hs
  obtain ⟨k, hB, _, rfl, _⟩ := hs
  have := rest_itr E k h.1 hp hB
  exact ⟨N', hM, hM.inv, by have := h.2; omega⟩

end

end Go.Proofs.Ytaieackeflmhgaa

namespace Go.Proofs.Ytaieackeflmhgaa
open Go.RowKit Go.Sort Go.Maps

/-- rows that are read, in a block from lo on -/
def RowsIn {α : Type} (sz : Nat) (enc : α → List Value) (lo : Nat) (w : World) (v : Value) (l : List α) : Prop :=
  ∃ ao cap, v = .slice ao l.length cap ∧ l.length ≤ cap ∧ (l ≠ [] → ∃ b off, ao = some ⟨b, off, none⟩ ∧ lo ≤ b ∧ b < w.heap.size ∧ ∀ (j : Nat) (x : α) (k : Nat) (u : Value), l[j]? = some x → (enc x)[k]? = some u → w.cell? ⟨b, off + j * sz + k, none⟩ = some u)

theorem RowsIn.keep {α : Type} {sz : Nat} {enc : α → List Value} {lo : Nat} {w w' : World} {v : Value} {l : List α} {F : Nat → Prop} (h : RowsIn sz enc lo w v l) (k : KeptF F w w') (hF : ∀ i, F i → i < lo) : RowsIn sz enc lo w' v l := by
  obtain ⟨ao, cap, h1, h2, h3⟩ := h
  refine ⟨ao, cap, h1, h2, fun hne => ?_⟩
  obtain ⟨b, off, h4, h5, h6, h7⟩ := h3 hne
  exact ⟨b, off, h4, h5, Nat.lt_of_lt_of_le h6 k.size, fun j x k' u hx hu => by rw [k.cell (p := ⟨b, _, none⟩) h6 (fun hf => by have := hF b hf; omega)]; exact h7 j x k' u hx hu⟩
theorem RowsIn.mono {α : Type} {sz : Nat} {enc : α → List Value} {lo lo' : Nat} {w : World} {v : Value} {l : List α} (h : RowsIn sz enc lo w v l) (hl : lo' ≤ lo) : RowsIn sz enc lo' w v l := by
  obtain ⟨ao, cap, h1, h2, h3⟩ := h
  refine ⟨ao, cap, h1, h2, fun hne => ?_⟩
  obtain ⟨b, off, h4, h5, h6, h7⟩ := h3 hne
  exact ⟨b, off, h4, by omega, h6, h7⟩
theorem RowsIn.at {α : Type} {sz : Nat} {enc : α → List Value} {lo : Nat} {w : World} {v : Value} {l : List α} (h : RowsIn sz enc lo w v l) : RowsAt sz enc w w.heap.size v l := by
  obtain ⟨ao, cap, h1, h2, h3⟩ := h
  refine ⟨ao, cap, h1, h2, fun hne => ?_⟩
  obtain ⟨b, off, h4, h5, h6, h7⟩ := h3 hne
  exact ⟨b, off, h4, h6, h7⟩
theorem Own.rowsIn {α : Type} {E : Enc α} {w : World} {B g len cap : Nat} {l : List α} (h : Own E w B (.slice (some ⟨g, 0, none⟩) len cap) l) (c : Nat) (hc : l.length ≤ c) : RowsIn E.sz E.enc B w (.slice (some ⟨g, 0, none⟩) l.length c) l := by
  refine ⟨_, _, rfl, hc, fun hne => ⟨g, 0, rfl, (h.lt rfl).1, (h.lt rfl).2, fun j x k u hx hu => ?_⟩⟩
  rw [Nat.zero_add]
  exact h.cell hx hu
theorem RowsIn.none {α : Type} (sz : Nat) (enc : α → List Value) (lo : Nat) (w : World) (ao : Option Addr) (cap : Nat) : RowsIn sz enc lo w (.slice ao 0 cap) [] := ⟨ao, cap, rfl, Nat.zero_le _, fun h => absurd rfl h⟩

/-- all of a row of one's own is appended to another one -/
theorem wpList_append_all {P : Program} {w : World} {ops : Array Oper} {rest : List Oper} {o : Oper} {a : Act} {Q : Exit → Act → World → Prop} (hgd : o.guard = none) (s x : Operand) (t : TypeId)
    (ho : o.op = .call { callee := .builtin .append, args := #[s, x], argTypes := #[t, t] }) {α : Type} (E : Enc α)
    (base : Nat) (i : TypeInfo) (z : Value) (bytes : Nat) (ht : P.underlying t = some (.slice E.T)) (hi : P.info? E.T = some i) (hz : i.zero = some z)
    (hsize : i.size = E.sz) (hby : i.bytes = bytes) (hzs : z.cells.size = E.sz)
    (v xv : Value) (l : List α) (B : Nat) (hs : a.eval s = v) (hown : Own E w base v []) (hx : a.eval x = xv) (hsrc : Own E w B xv l)
    (h63 : l.length ≤ maxLen) (hbytes : l.length * bytes ≤ 140737488355328) (hbase : base ≤ w.heap.size)
    (h : ∀ v' w', Own E w' base v' l → w.grownBy w' v.ownBlock → wpList P ops Q rest (a.put o.dst v') w') : wpList P ops Q (o :: rest) a w :=
  wpList_plain hgd fun _ hK => by
    rcases hsrc.form with ⟨hv, hl⟩ | ⟨g, cap, hv, hcap⟩
    · have hr := run_append_owned_none (P := P) w base t o.type E.T i E.sz ht hi v 0 [] hown
      subst hv hl
      unfold Oper.wp execOp
      simp only [ho, resolve, invoke, builtin, Sem.run_bind, Sem.run_pure, Result.andThen_ok, List.map_toArray, List.map_cons, List.map_nil, hs, hx, hr]
      exact hK _ _ (h v w hown ⟨rfl, rfl, rfl, Nat.le_refl _, fun _ _ _ => rfl⟩)
    · subst hv
      have hc := hsrc.takeCells l.length (Nat.le_refl _)
      rw [List.take_length] at hc
      obtain ⟨v', w', hr, r1, r2, r3⟩ := run_append_ownX (P := P) w base t o.type E.T i z E.sz bytes ht hi hz hsize hby hzs E.pos v 0 [] hown ⟨g, 0, none⟩ l.length cap (flat E l) (flat_length E l) hc (flat_one E l) (by omega) (by rw [Nat.zero_add]; exact hbytes) hbase
      unfold Oper.wp execOp
      simp only [ho, resolve, invoke, builtin, Sem.run_bind, Sem.run_pure, Result.andThen_ok, List.map_toArray, List.map_cons, List.map_nil, hs, hx, hr]
      refine hK _ _ (h v' w' ?_ r2)
      unfold Own
      rw [Nat.zero_add, List.nil_append] at r1
      exact r1

set_option maxRecDepth 100000 in
set_option maxHeartbeats 2000000 in
theorem told_any (w : World) (B : Nat) (p : Pr) (h : PAt w B p) (hl : p.dn.length ≤ 5000) :
    Calls Try.prog 53 #[.pointer (some ⟨p.qb, 0, none⟩)] w fun e w' => ∃ ao cap, e = .returned (.slice ao p.dn.length cap) ∧ Below w.heap.size w w' ∧ RowsIn 5 dnC w.heap.size w' (.slice ao p.dn.length cap) p.dn := by
  obtain ⟨aod, capd, hdvf, hcapd⟩ := h.own.form'
  have c8 : w.cell? ⟨p.qb, 11, none⟩ = some (.slice aod p.dn.length capd) := by rw [← hdvf]; exact h.cells.2.2.2
  obtain ⟨j0, hj0, hy0, hy1, hy2⟩ := info_parts info_dp
  have hlq := h.core.blk.lt
  have hown0 : Own dpE (w.alloc (.cells #[] 69)) w.heap.size (.slice (some ⟨w.heap.size, 0, none⟩) 0 0) [] := Own.madeNil dpE w w.heap.size 0 #[] (Nat.le_refl _) (Nat.zero_le _) rfl
  have hsrc : Own dpE (w.alloc (.cells #[] 69)) B (.slice aod p.dn.length capd) p.dn := by
    rw [← hdvf]
    exact h.own.keep ((KeptF.refl (fun _ => False) w).alloc _) (fun _ _ e => e)
  have hb0 : Below w.heap.size w (w.alloc (.cells #[] 69)) := (Below.refl _ _).alloc (Nat.le_refl _) _
  clear hdvf
  go_enter Try.func53, Try.ntmps53
  go_wp2_with (at_builtin; refine wpList_append_all rfl (.tmp 9) (.tmp 13) 60 rfl dpE w.heap.size j0 _ 40 Try.underlying60 hj0 hy0 hy1 hy2 rfl (.slice (some ⟨w.heap.size, 0, none⟩) 0 0) (.slice aod p.dn.length capd) p.dn B rfl ?own rfl ?src ?b1 ?b2 ?hb ?k)
  case own => exact hown0
  case src => exact hsrc
  case b1 => unfold maxLen; omega
  case b2 => omega
  case hb => exact hb0.size
  case k =>
    intro v2 w2 hO2 hgr2
    have hb2 : Below w.heap.size w w2 := hb0.trans (KeptF.below (F := fun i => i = w.heap.size) (KeptF.of_grown hgr2 (fun k e _ => by simp [Value.ownBlock] at e; exact e.symm)) hb0.size (fun i hi => by omega))
    rcases hO2.form with ⟨hv, hn⟩ | ⟨g, cap, hv, hcap⟩
    · subst hv
      have hn0 : p.dn.length = 0 := by rw [hn]; rfl
      have Hn : Hid (p.dn = []) := hn
      rw [hn0]
      clear hn hn0
      go_wp2
      go_ret
      rw [Hn.out]
      exact ⟨none, 0, rfl, hb2, RowsIn.none _ _ _ _ _ _⟩
    · subst hv
      clear hown0 hsrc hgr2 c8
      have hrow := hO2.rowsIn p.dn.length (Nat.le_refl _)
      go_wp2
      go_ret
      exact ⟨_, _, rfl, hb2, hrow⟩

end Go.Proofs.Ytaieackeflmhgaa

