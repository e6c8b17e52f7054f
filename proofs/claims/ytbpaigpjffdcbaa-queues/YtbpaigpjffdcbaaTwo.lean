/-
  Two queues beside their two lists.
-/
import Derived.Test.YtbpaigpjffdcbaaPlay3
namespace Go.Proofs.Ytbpaigpjffdcbaa
open Go.RowKit Go.Sort Go.Maps

structure QS where
  qb : Nat
  mb : Nat
  dv : Value
  n : Nat
  ds : List Day
  width : Int
  pushed : Nat
  lv : Value
  l : List It
  L : List Ent

def QS.ok (s : QS) (w : World) (B : Nat) : Prop := Pair w B s.qb s.mb s.dv s.n s.ds #[] 115 s.width s.pushed s.lv s.l s.L
def QS.foot (s : QS) (k : Nat) : Prop := PFoot s.qb s.mb s.dv s.ds s.lv k

/-- one step of one queue -/
structure Stepped (w w' : World) (B : Nat) (s s' : QS) : Prop where
  ok : s'.ok w' B
  same : s'.qb = s.qb
  kept : KeptF s.foot w w'
  foot : ∀ k, s'.foot k → s.foot k ∨ w.heap.size ≤ k

theorem stepped_of {w w' : World} {B : Nat} {s : QS} {P : Nat → List It → Prop} {e : Ending} (h : StepPost w B s.qb s.mb s.dv s.ds #[] 115 s.width s.lv P e w') :
    ∃ s', e = .returned (.tuple #[s'.lv, .bool true]) ∧ Stepped w w' B s s' ∧ P s'.pushed s'.l := by
  obtain ⟨dv', ds', n', pushed', lv', l', L', he, hS, hP⟩ := h
  exact ⟨⟨s.qb, s.mb, dv', n', ds', s.width, pushed', lv', l', L'⟩, he, ⟨hS.pair, rfl, hS.kept, hS.foot⟩, hP⟩

/-- a step of a script: what it is, which queue, the item -/
structure OpX where
  kind : Int
  w : Int
  x : It

theorem played_any (w : World) (B : Nat) (s : QS) (o : OpX) (h : s.ok w B) (hBw : B ≤ w.heap.size) (hp : s.pushed < 2932031007317) (ht : InInt o.x.t) :
    Calls Try.prog 18 #[.pointer (some ⟨s.qb, 0, none⟩), s.lv, .agg #[.int .i64 o.kind, .int .i64 o.w, .int .i64 o.x.t, .int .i64 o.x.f, .int .i64 o.x.s, .int .i64 o.x.l]] w
      fun e w' => ∃ s', e = .returned (.tuple #[s'.lv, .bool true]) ∧ Stepped w w' B s s' ∧ s'.pushed ≤ s.pushed + 1 := by
  by_cases h1 : o.kind = 1
  · rw [h1]
    refine (played_push w B s.qb s.mb s.dv s.n s.ds #[] _ s.width s.pushed s.lv s.l s.L o.w o.x h hBw hp ht).mono (fun e w' hS => ?_)
    obtain ⟨s', he, hS', hP⟩ := stepped_of hS
    exact ⟨s', he, hS', by omega⟩
  · by_cases h2 : o.kind = 2
    · rw [h2]
      refine (played_pop w B s.qb s.mb s.dv s.n s.ds #[] _ s.width s.pushed s.lv s.l s.L o.w o.x h hBw (by omega)).mono (fun e w' hS => ?_)
      obtain ⟨s', he, hS', hP⟩ := stepped_of hS
      exact ⟨s', he, hS', by omega⟩
    · by_cases h3 : o.kind = 3
      · rw [h3]
        refine (played_least w B s.qb s.mb s.dv s.n s.ds #[] _ s.width s.pushed s.lv s.l s.L o.w o.x h hBw (by omega)).mono (fun e w' hS => ?_)
        obtain ⟨s', he, hS', hP⟩ := stepped_of hS
        exact ⟨s', he, hS', by omega⟩
      · by_cases h4 : o.kind = 4
        · rw [h4]
          refine (played_len w B s.qb s.mb s.dv s.n s.ds #[] _ s.width s.pushed s.lv s.l s.L o.w o.x h hBw (by omega)).mono (fun e w' hS => ?_)
          obtain ⟨s', he, hS', hP⟩ := stepped_of hS
          exact ⟨s', he, hS', by omega⟩
        · refine (played_other w B s.qb s.mb s.dv s.n s.ds #[] _ s.width s.pushed s.lv s.l s.L o.w o.x o.kind h1 h2 h3 h4 h hBw (by omega)).mono (fun e w' hS => ?_)
          obtain ⟨s', he, hS', hP⟩ := stepped_of hS
          exact ⟨s', he, hS', by omega⟩

theorem popped_any (w : World) (B : Nat) (s : QS) (h : s.ok w B) (hBw : B ≤ w.heap.size) (hp : s.pushed ≤ 2932031007317) :
    Calls Try.prog 18 #[.pointer (some ⟨s.qb, 0, none⟩), s.lv, .agg #[.int .i64 2, .int .i64 0, .int .i64 0, .int .i64 0, .int .i64 0, .int .i64 0]] w
      fun e w' => ∃ s', e = .returned (.tuple #[s'.lv, .bool true]) ∧ Stepped w w' B s s' ∧ s'.pushed = s.pushed ∧ s'.l.length = s.l.length - 1 := by
  refine (played_pop w B s.qb s.mb s.dv s.n s.ds #[] _ s.width s.pushed s.lv s.l s.L 0 ⟨0, 0, 0, 0⟩ h hBw hp).mono (fun e w' hS => ?_)
  obtain ⟨s', he, hS', hP⟩ := stepped_of hS
  exact ⟨s', he, hS', hP.1, hP.2⟩

/-- two queues, their lists, and the two rows that lead to them -/
structure Two (w0 w : World) (qsb lsb : Nat) (s t : QS) : Prop where
  a : s.ok w w0.heap.size
  b : t.ok w w0.heap.size
  disj : ∀ k, s.foot k → ¬ t.foot k
  qs : Blk w qsb #[.pointer (some ⟨s.qb, 0, none⟩), .pointer (some ⟨t.qb, 0, none⟩)] 42
  ls : Blk w lsb #[s.lv, t.lv] 50
  aq : ¬ s.foot qsb
  al : ¬ s.foot lsb
  bq : ¬ t.foot qsb
  bl : ¬ t.foot lsb
  ne : qsb ≠ lsb
  low : w0.heap.size ≤ qsb ∧ w0.heap.size ≤ lsb
  below : Below w0.heap.size w0 w


theorem Pair.drew {w : World} {B qb mb : Nat} {dv : Value} {n : Nat} {ds : List Day} {rest : Array Value} {Tq : TypeId} {width : Int} {pushed : Nat} {lv : Value} {l : List It} {L : List Ent} (h : Pair w B qb mb dv n ds rest Tq width pushed lv l L) : Pair w.drew B qb mb dv n ds rest Tq width pushed lv l L :=
  h.keep (G := fun _ => False) (KeptF.refl _ w).drew (fun _ _ e => e)

theorem QS.foot_lt {w : World} {B : Nat} {s : QS} (h : s.ok w B) {k : Nat} (hk : s.foot k) : B ≤ k ∧ k < w.heap.size := Pair.foot_lt h hk

theorem Two.drew {w0 w : World} {qsb lsb : Nat} {s t : QS} (h : Two w0 w qsb lsb s t) : Two w0 w.drew qsb lsb s t :=
  ⟨Pair.drew h.a, Pair.drew h.b, h.disj, h.qs, h.ls, h.aq, h.al, h.bq, h.bl, h.ne, h.low, h.below.drew⟩

theorem Two.step0 {w0 w w1 : World} {qsb lsb : Nat} {s t s' : QS} (h : Two w0 w qsb lsb s t) (hS : Stepped w w1 w0.heap.size s s') : Two w0 (w1.setCell ⟨lsb, 0, none⟩ s'.lv) qsb lsb s' t := by
  have hlt : ∀ k, k < w.heap.size → ¬ s.foot k → ¬ s'.foot k := by
    intro k hk hn hf
    rcases hS.foot k hf with h1 | h1
    · exact hn h1
    · omega
  have hb1 : t.ok w1 w0.heap.size := Pair.keep h.b hS.kept (fun i hi e => h.disj i e hi)
  have hq1 := h.qs.keep hS.kept h.aq
  have hl1 := h.ls.keep hS.kept h.al
  have nq := hlt qsb h.qs.lt h.aq
  have nl := hlt lsb h.ls.lt h.al
  have k2 := (KeptF.refl (fun k => k = lsb) w1).setCell (p := ⟨lsb, 0, none⟩) (.inl rfl) s'.lv
  refine ⟨Pair.keep hS.ok k2 (fun i hi e => nl (by rw [← e]; exact hi)), Pair.keep hb1 k2 (fun i hi e => h.bl (by rw [← e]; exact hi)), fun k hk ht => ?_, ?_, ?_, nq, nl, h.bq, h.bl, h.ne, h.low, ?_⟩
  · rcases hS.foot k hk with h1 | h1
    · exact h.disj k h1 ht
    · have := (QS.foot_lt h.b ht).2; omega
  · rw [hS.same]
    exact hq1.keep k2 h.ne
  · exact hl1.set 0 s'.lv
  · have hk1 : Below w0.heap.size w w1 := hS.kept.below h.below.size (fun i hi => (QS.foot_lt h.a hi).1)
    exact (h.below.trans hk1).setCell (p := ⟨lsb, 0, none⟩) h.low.2 _

theorem Two.step1 {w0 w w1 : World} {qsb lsb : Nat} {s t t' : QS} (h : Two w0 w qsb lsb s t) (hS : Stepped w w1 w0.heap.size t t') : Two w0 (w1.setCell ⟨lsb, 1, none⟩ t'.lv) qsb lsb s t' := by
  have hlt : ∀ k, k < w.heap.size → ¬ t.foot k → ¬ t'.foot k := by
    intro k hk hn hf
    rcases hS.foot k hf with h1 | h1
    · exact hn h1
    · omega
  have hb1 : s.ok w1 w0.heap.size := Pair.keep h.a hS.kept (fun i hi e => h.disj i hi e)
  have hq1 := h.qs.keep hS.kept h.bq
  have hl1 := h.ls.keep hS.kept h.bl
  have nq := hlt qsb h.qs.lt h.bq
  have nl := hlt lsb h.ls.lt h.bl
  have k2 := (KeptF.refl (fun k => k = lsb) w1).setCell (p := ⟨lsb, 1, none⟩) (.inl rfl) t'.lv
  refine ⟨Pair.keep hb1 k2 (fun i hi e => h.al (by rw [← e]; exact hi)), Pair.keep hS.ok k2 (fun i hi e => nl (by rw [← e]; exact hi)), fun k hs hk => ?_, ?_, ?_, h.aq, h.al, nq, nl, h.ne, h.low, ?_⟩
  · rcases hS.foot k hk with h1 | h1
    · exact h.disj k hs h1
    · have := (QS.foot_lt h.a hs).2; omega
  · rw [hS.same]
    exact hq1.keep k2 h.ne
  · exact hl1.set 1 t'.lv
  · have hk1 : Below w0.heap.size w w1 := hS.kept.below h.below.size (fun i hi => (QS.foot_lt h.b hi).1)
    exact (h.below.trans hk1).setCell (p := ⟨lsb, 1, none⟩) h.low.2 _

end Go.Proofs.Ytbpaigpjffdcbaa
