/-
  The walk of the statement Queues.
-/
import Derived.Test.YtaieackeflmhgaaJ05
namespace Go.Proofs.Ytaieackeflmhgaa
open Go.RowKit Go.Sort Go.Maps

/-- the script's cells -/
structure ScriptIs (w : World) (ao : Option Addr) (ops : List OpX) : Prop where
  at_ : ops ≠ [] → ∃ b off, ao = some ⟨b, off, none⟩ ∧ b < w.heap.size ∧ ∀ (j : Nat) (o : OpX), ops[j]? = some o →
    w.cell? ⟨b, off + j * 6, none⟩ = some (.int .i64 o.kind) ∧ w.cell? ⟨b, off + j * 6 + 1, none⟩ = some (.int .i64 o.w) ∧ w.cell? ⟨b, off + j * 6 + 2, none⟩ = some (.int .i64 o.x.t) ∧ w.cell? ⟨b, off + j * 6 + 3, none⟩ = some (.int .i64 o.x.f) ∧ w.cell? ⟨b, off + j * 6 + 4, none⟩ = some (.int .i64 o.x.s) ∧ w.cell? ⟨b, off + j * 6 + 5, none⟩ = some (.int .i64 o.x.l)
  inint : ∀ o ∈ ops, InInt o.x.t

theorem and_one (a : Int) : bits BinOp.and IntKind.i64 a 1 = 0 ∨ bits BinOp.and IntKind.i64 a 1 = 1 := by
  have h : (BitVec.ofInt 64 a &&& BitVec.ofInt 64 1).toNat = (BitVec.ofInt 64 a).toNat % 2 := by
    rw [BitVec.toNat_and]
    exact Nat.and_one_is_mod _
  have h2 : (BitVec.ofInt 64 a).toNat % 2 < 2 := Nat.mod_lt _ (by omega)
  have e : bits BinOp.and IntKind.i64 a 1 = IntKind.i64.wrap (((BitVec.ofInt 64 a &&& BitVec.ofInt 64 1).toNat : Nat) : Int) := rfl
  rw [e, h]
  generalize (BitVec.ofInt 64 a).toNat % 2 = n at *
  have h3 : n = 0 ∨ n = 1 := by omega
  rcases h3 with rfl | rfl
  · left; rfl
  · right; rfl

theorem slice_form {s : QS} {w : World} {B : Nat} (h : s.ok w B) : ∃ a n c, s.lv = .slice a n c := by
  rcases (Pair.list h).form with ⟨h1, _⟩ | ⟨g, c, h1, _⟩
  · exact ⟨_, _, _, h1⟩
  · exact ⟨_, _, _, h1⟩

theorem played_anyS (w : World) (B : Nat) (s : QS) (o : OpX) (h : s.ok w B) (hBw : B ≤ w.heap.size) (hp : s.pushed < 2932031007317) (ht : InInt o.x.t) :
    Calls Try.prog 20 #[.pointer (some ⟨s.qb, 0, none⟩), s.lv, .agg #[.int .i64 o.kind, .int .i64 o.w, .int .i64 o.x.t, .int .i64 o.x.f, .int .i64 o.x.s, .int .i64 o.x.l]] w
      fun e w' => ∃ s' a n c, e = .returned (.tuple #[.slice a n c, .bool true]) ∧ Hid (s'.lv = .slice a n c) ∧ Stepped w w' B s s' ∧ s'.pushed ≤ s.pushed + 1 := by
  refine (played_any w B s o h hBw hp ht).mono (fun e w' hS => ?_)
  obtain ⟨s', he, hS', hP⟩ := hS
  obtain ⟨a, n, c, hv⟩ := slice_form hS'.ok
  exact ⟨s', a, n, c, by rw [he, hv], hv, hS', hP⟩

theorem popped_anyS (w : World) (B : Nat) (s : QS) (h : s.ok w B) (hBw : B ≤ w.heap.size) (hp : s.pushed ≤ 2932031007317) :
    Calls Try.prog 20 #[.pointer (some ⟨s.qb, 0, none⟩), s.lv, .agg #[.int .i64 2, .int .i64 0, .int .i64 0, .int .i64 0, .int .i64 0, .int .i64 0]] w
      fun e w' => ∃ s' a n c, e = .returned (.tuple #[.slice a n c, .bool true]) ∧ Hid (s'.lv = .slice a n c) ∧ Stepped w w' B s s' ∧ Hid (s'.pushed = s.pushed) ∧ Hid (s'.l.length = s.l.length - 1) := by
  refine (popped_any w B s h hBw hp).mono (fun e w' hS => ?_)
  obtain ⟨s', he, hS', hP1, hP2⟩ := hS
  obtain ⟨a, n, c, hv⟩ := slice_form hS'.ok
  exact ⟨s', a, n, c, by rw [he, hv], hv, hS', hP1, hP2⟩

theorem make_ls (w : World) : (Instr.makeSlice 45 (.int .i64 2) (.int .i64 2)).run Try.prog w = .ok (.slice (some ⟨w.heap.size, 0, none⟩) 2 2) (w.alloc (.cells #[.slice none 0 0, .slice none 0 0] 50)) := by kernel_rfl

def newQS (qb mb : Nat) (width : Int) : QS := ⟨qb, mb, .slice none 0 0, 0, [], width, 0, .slice none 0 0, [], []⟩

theorem newQS_ok (w : World) (B qb mb : Nat) (width : Int) (h1 : 1 ≤ width) (h2 : width ≤ 100) (hB : B ≤ mb) (hBq : B ≤ qb) (hne : qb ≠ mb) (hm : w.heap[mb]? = some (.map #[] 0)) (hq : Blk w qb #[.int .i64 width, .int .i64 0, .int .i64 0, .slice none 0 0, .map (some mb)] 118) : (newQS qb mb width).ok w B := by
  refine ⟨?_, fun y hy => by simp [newQS] at hy, List.Perm.refl _, by simp [newQS], fun e he => by simp [newQS] at he, rfl, fun e he => by simp [newQS] at he, ISl.nil _ _, fun g hg => by simp [newQS, Value.ownBlock] at hg, h1, h2, Nat.le_refl _, Nat.le_refl _⟩
  exact QCore.empty w B qb mb width _ #[] hB hBq hne hm (by simpa using hq)

theorem two_start (w : World) (wd1 wd2 : Int) (h1 : 1 ≤ wd1) (h2 : wd1 ≤ 100) (h3 : 1 ≤ wd2) (h4 : wd2 ≤ 100) :
    Two w ((((((w.alloc (.map #[] 0)).alloc (.cells #[.int .i64 wd1, .int .i64 0, .int .i64 0, .slice none 0 0, .map (some w.heap.size)] 118)).alloc (.map #[] 0)).alloc (.cells #[.int .i64 wd2, .int .i64 0, .int .i64 0, .slice none 0 0, .map (some (w.heap.size + 1 + 1))] 118)).alloc
        (.cells #[.pointer (some ⟨w.heap.size + 1, 0, none⟩), .pointer (some ⟨w.heap.size + 1 + 1 + 1, 0, none⟩)] 42)).alloc (.cells #[.slice none 0 0, .slice none 0 0] 50))
      (w.heap.size + 1 + 1 + 1 + 1) (w.heap.size + 1 + 1 + 1 + 1 + 1) (newQS (w.heap.size + 1) w.heap.size wd1) (newQS (w.heap.size + 1 + 1 + 1) (w.heap.size + 1 + 1) wd2) := by
  have foot : ∀ (q m k : Nat) (wd : Int), (newQS q m wd).foot k → k = q ∨ k = m := by
    intro q m k wd h
    rcases h with (h | h | h | ⟨x, hx, _⟩) | h
    · exact .inl h
    · exact .inr h
    · simp [newQS, Value.ownBlock] at h
    · simp [newQS] at hx
    · simp [newQS, Value.ownBlock] at h
  have old : ∀ (W : World) (o : Obj) (k : Nat) (x : Obj), W.heap[k]? = some x → (W.alloc o).heap[k]? = some x := by
    intro W o k x hx
    have : k < W.heap.size := by
      rcases Nat.lt_or_ge k W.heap.size with h | h
      · exact h
      · rw [Array.getElem?_eq_none h] at hx; cases hx
    rw [Below.heap_alloc _ _ _ this]; exact hx
  have new : ∀ (W : World) (o : Obj) (k : Nat), W.heap.size = k → (W.alloc o).heap[k]? = some o := by
    intro W o k hk; subst hk; exact heap_alloc_new W o
  refine ⟨newQS_ok _ _ _ _ _ h1 h2 (Nat.le_refl _) (by omega) (by omega) ?_ ?_, newQS_ok _ _ _ _ _ h3 h4 (by omega) (by omega) (by omega) ?_ ?_, ?_, ?_, ?_, ?_, ?_, ?_, ?_, by omega, ⟨by omega, by omega⟩, ?_⟩
  · exact old _ _ _ _ (old _ _ _ _ (old _ _ _ _ (old _ _ _ _ (old _ _ _ _ (new _ _ _ rfl)))))
  · exact old _ _ _ _ (old _ _ _ _ (old _ _ _ _ (old _ _ _ _ (new _ _ _ (by simp)))))
  · exact old _ _ _ _ (old _ _ _ _ (old _ _ _ _ (new _ _ _ (by simp))))
  · exact old _ _ _ _ (old _ _ _ _ (new _ _ _ (by simp)))
  · intro k hk hk'
    have := foot _ _ _ _ hk
    have := foot _ _ _ _ hk'
    omega
  · exact old _ _ _ _ (new _ _ _ (by simp))
  · exact new _ _ _ (by simp)
  · intro hk; have := foot _ _ _ _ hk; omega
  · intro hk; have := foot _ _ _ _ hk; omega
  · intro hk; have := foot _ _ _ _ hk; omega
  · intro hk; have := foot _ _ _ _ hk; omega
  · exact ((((((Below.refl _ w).alloc (Nat.le_refl _) _).alloc (by simp) _).alloc (by simp; omega) _).alloc (by simp; omega) _).alloc (by simp; omega) _).alloc (by simp; omega) _

set_option maxRecDepth 100000 in
set_option maxHeartbeats 8000000 in
theorem queues_any (w : World) (width other : Int) (ao : Option Addr) (cap : Nat) (ops : List OpX) (hS : ScriptIs w ao ops) (hlen : ops.length ≤ 2932031007317) :
    Calls Try.prog 4 #[.int .i64 width, .int .i64 other, .slice ao ops.length cap] w fun e w' => e = .returned (.bool true) ∧ Below w.heap.size w w' := by
  have hmk := make_ls
  go_enter Try.func4, Try.ntmps4
  go_wp2_with fail
  refine (new_any width _).mono ?_
  rintro e w1 ⟨rfl, wd1, ha1, ha2, rfl⟩
  go_wp2_with fail
  refine (new_any other _).mono ?_
  rintro e w2 ⟨rfl, wd2, hb1, hb2, rfl⟩
  go_wp2
  have hT0 := two_start w wd1 wd2 ha1 ha2 hb1 hb2
  go_loopw [11] (fun si wr => ∃ (i : Nat) (s t : QS), si = .int .i64 i ∧ i ≤ ops.length ∧ Two w wr (w.heap.size + 1 + 1 + 1 + 1) (w.heap.size + 1 + 1 + 1 + 1 + 1) s t ∧ s.pushed ≤ i ∧ t.pushed ≤ i) (fun si _ => ops.length - (intOf si).toNat)
  case atStart => exact ⟨0, _, _, rfl, Nat.zero_le _, hT0, Nat.le_refl _, Nat.le_refl _⟩
  case round =>
    obtain ⟨i, s, t, rfl, hi, hT, hp1, hp2⟩ := hrel
    clear hT0 ha1 ha2 hb1 hb2 hmk
    by_cases hlt : i < ops.length
    · obtain ⟨o, ho⟩ := get_of_lt hlt
      obtain ⟨b, off, rfl, hb, hcs⟩ := hS.at_ (by intro e; rw [e] at hlt; simp at hlt)
      obtain ⟨c0, c1, c2, c3, c4, c5⟩ := hcs i o ho
      have bl : ∀ {p v}, w.cell? ⟨b, p, none⟩ = some v → wr.cell? ⟨b, p, none⟩ = some v := fun h => by rw [hT.below.cell (p := ⟨b, _, none⟩) hb]; exact h
      have k0 := bl c0
      have k1 := bl c1
      have k2 := bl c2
      have k3 := bl c3
      have k4 := bl c4
      have k5 := bl c5
      have hti := hS.inint o (List.mem_of_getElem? ho)
      clear c0 c1 c2 c3 c4 c5 bl hcs hS ho
      have hp1' : s.pushed < 2932031007317 := by omega
      have hp2' : t.pushed < 2932031007317 := by omega
      have q0 := hT.qs.cell 0
      have q1 := hT.qs.cell 1
      have l0 := hT.ls.cell 0
      have l1 := hT.ls.cell 1
      simp only [List.getElem?_toArray, List.getElem?_cons_zero, List.getElem?_cons_succ] at q0 q1 l0 l1
      have hTd := hT.drew
      have hBw := hTd.below.size
      have lf := hTd.ls.frozen
      have ld0 := hTd.ls.cell 0
      have ld1 := hTd.ls.cell 1
      have hplayA := played_anyS wr.drew w.heap.size s o hTd.a hBw hp1' hti
      have hplayB := played_anyS wr.drew w.heap.size t o hTd.b hBw hp2' hti
      have hlsb := hT.ls.lt
      rcases and_one o.w with hw | hw
      · go_wp2
        go_region_with ((go_at_call 20
                         refine hplayA.mono ?_
                         rintro e w1 ⟨s', xa, xn, xc, rfl, Hv, hSt, hpu⟩))
        all_goals
          have hT1 := hTd.step0 hSt
          have hb2 := (hTd.ls.keep hSt.kept hTd.al)
          have z0 := hb2.cell 0
          simp only [List.getElem?_toArray, List.getElem?_cons_zero] at z0
          have zf := hb2.frozen
          rw [Hv.out] at hT1
          clear hplayA hplayB k0 k1 k2 k3 k4 k5 q0 q1 l0 l1 ld0 ld1 lf hb2
          go_wp2
          go_roundw
          case rel => exact ⟨i + 1, s', t, by go_num, hlt, hT1, by omega, by omega⟩
          case measure => simp [intOf]; omega
      · go_wp2
        go_region_with ((go_at_call 20
                         refine hplayB.mono ?_
                         rintro e w1 ⟨t', xa, xn, xc, rfl, Hv, hSt, hpu⟩))
        all_goals
          have hT1 := hTd.step1 hSt
          have hb2 := (hTd.ls.keep hSt.kept hTd.bl)
          have z0 := hb2.cell 1
          simp only [List.getElem?_toArray, List.getElem?_cons_zero, List.getElem?_cons_succ] at z0
          have zf := hb2.frozen
          rw [Hv.out] at hT1
          clear hplayA hplayB k0 k1 k2 k3 k4 k5 q0 q1 l0 l1 ld0 ld1 lf hb2
          go_wp2
          go_roundw
          case rel => exact ⟨i + 1, s, t', by go_num, hlt, hT1, by omega, by omega⟩
          case measure => simp [intOf]; omega
    · clear hS
      go_wp2
      go_loopw [15] (fun si wr => ∃ (k : Nat) (s t : QS), si = .int .i64 k ∧ k ≤ 2 ∧ Two w wr (w.heap.size + 1 + 1 + 1 + 1) (w.heap.size + 1 + 1 + 1 + 1 + 1) s t ∧ s.pushed ≤ ops.length ∧ t.pushed ≤ ops.length) (fun si _ => 2 - (intOf si).toNat)
      case atStart => exact ⟨0, s, t, rfl, by omega, hT, by omega, by omega⟩
      case round =>
        clear hT hp1 hp2
        obtain ⟨k, s, t, rfl, hk, hT, hp1, hp2⟩ := hrel
        have hk3 : k = 0 ∨ k = 1 ∨ k = 2 := by omega
        rcases hk3 with rfl | rfl | rfl
        · skip
          obtain ⟨ta, tc, htv⟩ : ∃ a c, s.lv = .slice a s.l.length c := by
            rcases (Pair.list hT.a).form with ⟨h1, h2⟩ | ⟨g, c, h1, _⟩
            · rw [h2]; exact ⟨_, _, h1⟩
            · exact ⟨_, _, h1⟩
          have l0 := hT.ls.cell 0
          simp only [List.getElem?_toArray, List.getElem?_cons_zero] at l0
          rw [htv] at l0
          clear htv
          obtain ⟨n, hn⟩ : ∃ n, n = s.l.length := ⟨_, rfl⟩
          rw [← hn] at l0
          have hnN : n ≤ 2932031007317 := by
            have h1 := (Pair.lens hT.a).2.2
            have h2 := Pair.lenle hT.a
            omega
          have Hn : Hid (n = s.l.length) := hn
          clear hn
          go_wp2
          clear l0
          go_loopw [17] (fun si wr => ∃ (i : Nat) (u : QS), si = .int .i64 i ∧ i ≤ n + 1 ∧ Two w wr (w.heap.size + 1 + 1 + 1 + 1) (w.heap.size + 1 + 1 + 1 + 1 + 1) u t ∧ u.pushed ≤ ops.length ∧ Hid (u.l.length = n - i)) (fun si _ => n + 1 - (intOf si).toNat)
          case atStart => exact ⟨0, s, rfl, by omega, hT, hp1, by have := Hn.out; show _ = _; omega⟩
          case round =>
            clear hT
            obtain ⟨i, u, rfl, hi, hT, hpu, Hul⟩ := hrel
            have q0 := hT.qs.cell 0
            have l0 := hT.ls.cell 0
            simp only [List.getElem?_toArray, List.getElem?_cons_zero] at q0 l0
            by_cases hin : i ≤ n
            · have hTd := hT.drew
              have hpop := popped_anyS wr.drew w.heap.size u hTd.a hTd.below.size (by omega)
              go_wp2
              go_region_with ((go_at_call 20
                               refine hpop.mono ?_
                               rintro e w1 ⟨u', xa, xn, xc, rfl, Hv, hSt, Hp, Hl⟩))
              all_goals
                have hT1 := hTd.step0 hSt
                have hb2 := (hTd.ls.keep hSt.kept hTd.al)
                have z0 := hb2.cell 0
                simp only [List.getElem?_toArray, List.getElem?_cons_zero] at z0
                have zf := hb2.frozen
                rw [Hv.out] at hT1
                clear hpop q0 l0 hb2
                go_wp2
                go_roundw
                case rel =>
                  have hlen2 : Hid (u'.l.length = n - (i + 1)) := by have h1 := Hl.out; have h2 := Hul.out; show _ = _; omega
                  have hpu2 : u'.pushed ≤ ops.length := by have := Hp.out; omega
                  (repeat apply Exists.intro)
                  exact ⟨⟨i + 1, u', by go_num, by omega, hT1, hpu2, hlen2⟩, rfl⟩
                case measure => simp [intOf]; omega
            · have hL0 : u.L.length = 0 := by
                have h1 := (Pair.lens hT.a).2.2
                have h2 := Hul.out
                omega
              have hlen := len_any wr w.heap.size u.qb u.mb u.dv u.n u.ds #[] 118 u.width u.L.length u.pushed (Pair.core hT.a)
              rw [hL0] at hlen
              clear hL0 l0
              go_wp2_with (go_at_call 21; refine hlen.mono ?_; rintro e w1 ⟨rfl, rfl⟩)
              go_roundw
              case rel => exact ⟨1, u, t, by go_num, by omega, hT, hpu, hp2⟩
              case measure => simp [intOf]

        · skip
          obtain ⟨ta, tc, htv⟩ : ∃ a c, t.lv = .slice a t.l.length c := by
            rcases (Pair.list hT.b).form with ⟨h1, h2⟩ | ⟨g, c, h1, _⟩
            · rw [h2]; exact ⟨_, _, h1⟩
            · exact ⟨_, _, h1⟩
          have l0 := hT.ls.cell 1
          simp only [List.getElem?_toArray, List.getElem?_cons_zero, List.getElem?_cons_succ] at l0
          rw [htv] at l0
          clear htv
          obtain ⟨n, hn⟩ : ∃ n, n = t.l.length := ⟨_, rfl⟩
          rw [← hn] at l0
          have hnN : n ≤ 2932031007317 := by
            have h1 := (Pair.lens hT.b).2.2
            have h2 := Pair.lenle hT.b
            omega
          have Hn : Hid (n = t.l.length) := hn
          clear hn
          go_wp2
          clear l0
          go_loopw [17] (fun si wr => ∃ (i : Nat) (u : QS), si = .int .i64 i ∧ i ≤ n + 1 ∧ Two w wr (w.heap.size + 1 + 1 + 1 + 1) (w.heap.size + 1 + 1 + 1 + 1 + 1) s u ∧ u.pushed ≤ ops.length ∧ Hid (u.l.length = n - i)) (fun si _ => n + 1 - (intOf si).toNat)
          case atStart => exact ⟨0, t, rfl, by omega, hT, hp2, by have := Hn.out; show _ = _; omega⟩
          case round =>
            clear hT
            obtain ⟨i, u, rfl, hi, hT, hpu, Hul⟩ := hrel
            have q0 := hT.qs.cell 1
            have l0 := hT.ls.cell 1
            simp only [List.getElem?_toArray, List.getElem?_cons_zero, List.getElem?_cons_succ] at q0 l0
            by_cases hin : i ≤ n
            · have hTd := hT.drew
              have hpop := popped_anyS wr.drew w.heap.size u hTd.b hTd.below.size (by omega)
              go_wp2
              go_region_with ((go_at_call 20
                               refine hpop.mono ?_
                               rintro e w1 ⟨u', xa, xn, xc, rfl, Hv, hSt, Hp, Hl⟩))
              all_goals
                have hT1 := hTd.step1 hSt
                have hb2 := (hTd.ls.keep hSt.kept hTd.bl)
                have z0 := hb2.cell 1
                simp only [List.getElem?_toArray, List.getElem?_cons_zero, List.getElem?_cons_succ] at z0
                have zf := hb2.frozen
                rw [Hv.out] at hT1
                clear hpop q0 l0 hb2
                go_wp2
                go_roundw
                case rel =>
                  have hlen2 : Hid (u'.l.length = n - (i + 1)) := by have h1 := Hl.out; have h2 := Hul.out; show _ = _; omega
                  have hpu2 : u'.pushed ≤ ops.length := by have := Hp.out; omega
                  (repeat apply Exists.intro)
                  exact ⟨⟨i + 1, u', by go_num, by omega, hT1, hpu2, hlen2⟩, rfl⟩
                case measure => simp [intOf]; omega
            · have hL0 : u.L.length = 0 := by
                have h1 := (Pair.lens hT.b).2.2
                have h2 := Hul.out
                omega
              have hlen := len_any wr w.heap.size u.qb u.mb u.dv u.n u.ds #[] 118 u.width u.L.length u.pushed (Pair.core hT.b)
              rw [hL0] at hlen
              clear hL0 l0
              go_wp2_with (go_at_call 21; refine hlen.mono ?_; rintro e w1 ⟨rfl, rfl⟩)
              go_roundw
              case rel => exact ⟨2, s, u, by go_num, by omega, hT, hp1, hpu⟩
              case measure => simp [intOf]

        · go_wp2
          go_ret
          exact ⟨rfl, hT.below⟩

end Go.Proofs.Ytaieackeflmhgaa

