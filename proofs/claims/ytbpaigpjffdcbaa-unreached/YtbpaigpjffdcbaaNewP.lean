/-
  The program: newProcesses.
-/
import Derived.Test.YtbpaigpjffdcbaaSim
import Derived.Test.YtbpaigpjffdcbaaRefE
namespace Go.Proofs.Ytbpaigpjffdcbaa
open Go.RowKit Go.Sort Go.Maps

theorem made_ptrs (n : Nat) : madeCells #[Value.pointer none] n = (List.replicate n (Value.pointer none)).toArray := by
  apply Array.ext
  · simp [madeCells]
  · intro i h1 h2
    simp [madeCells, Nat.mod_one]
theorem info_pp : (Try.prog.info? 124).map (fun i => (i.zero, i.size, i.bytes)) = some (some (.pointer none), 1, 8) := by kernel_rfl

theorem set_snoc (a : List Value) (N : Nat) (y : Value) (h : a.length < N) : (a ++ List.replicate (N - a.length) (Value.pointer none)).toArray.setIfInBounds a.length y = ((a ++ [y]) ++ List.replicate (N - (a.length + 1)) (Value.pointer none)).toArray := by
  have e : N - a.length = (N - (a.length + 1)) + 1 := by omega
  rw [e, List.replicate_succ, List.setIfInBounds_toArray, List.set_append_right _ _ (Nat.le_refl _), Nat.sub_self]
  simp

theorem Procs.snoc {w w' : World} {B pb N : Nat} {ps : List Pr} {p : Pr} (h : Procs w B pb N ps) (hl : ps.length < N) (k : KeptF (fun i => i = pb) w w') (hb : Blk w' pb ((ps.map ptr ++ List.replicate (N - ps.length) (Value.pointer none)).toArray.setIfInBounds ps.length (ptr p)) 124)
    (hp : PAt w' B p) (hf : ∀ i, PF p i → w.heap.size ≤ i) : Procs w' B pb N (ps ++ [p]) := by
  have hget : ∀ (i : Nat) (q : Pr), (ps ++ [p])[i]? = some q → (i = ps.length ∧ q = p) ∨ (i < ps.length ∧ ps[i]? = some q) := by
    intro i q hq
    by_cases hi : i < ps.length
    · rw [List.getElem?_append_left hi] at hq; exact .inr ⟨hi, hq⟩
    · have := get_lt hq
      rw [List.length_append, List.length_singleton] at this
      have e : i = ps.length := by omega
      subst e
      rw [List.getElem?_append_right (Nat.le_refl _), Nat.sub_self] at hq
      simp at hq
      exact .inl ⟨rfl, hq.symm⟩
  have hlt : ∀ q ∈ ps, ∀ i, PF q i → i < w.heap.size := fun q hq i hi => ((h.each q hq).lt hi).2
  refine ⟨?_, ?_, ?_, ?_, h.low⟩
  · have e := set_snoc (ps.map ptr) N (ptr p) (by simpa using hl)
    rw [List.length_map] at e
    rw [e] at hb
    rw [List.map_append, List.length_append, List.length_singleton]
    exact hb
  · intro q hq
    rcases List.mem_append.1 hq with hq | hq
    · exact (h.each q hq).keep k (fun i hi e => h.out q hq (by subst e; exact hi))
    · simp at hq; subst hq; exact hp
  · intro i j x y hx hy hij c hc hc'
    rcases hget i x hx with ⟨e1, e2⟩ | ⟨e1, e2⟩
    · rcases hget j y hy with ⟨e3, _⟩ | ⟨e3, e4⟩
      · omega
      · subst e2
        have h1 := hf c hc
        have h2 := hlt y (List.mem_of_getElem? e4) c hc'
        omega
    · rcases hget j y hy with ⟨e3, e4⟩ | ⟨e3, e4⟩
      · subst e4
        have h1 := hf c hc'
        have h2 := hlt x (List.mem_of_getElem? e2) c hc
        omega
      · exact h.apart i j x y e2 e4 hij c hc hc'
  · intro q hq hk
    rcases List.mem_append.1 hq with hq | hq
    · exact h.out q hq hk
    · simp at hq; subst hq
      have h1 := hf pb hk
      have h2 := h.arr.lt
      omega

def fresh (p : Pr) (i : Nat) : Prop := p.num = (i : Int) ∧ p.st = 0 ∧ p.sent = 0 ∧ p.its = [] ∧ p.pushed = 0 ∧ p.dn = []

theorem sim_fresh {N : Nat} {ps : List Pr} (hl : ps.length = N) (h : ∀ (i : Nat) (p : Pr), ps[i]? = some p → fresh p i) : Sim N [] (List.replicate N 0) (List.replicate N 0) (List.replicate N []) ps := by
  refine ⟨hl, fun i p hp => (h i p hp).1, fun i p hp => ?_, fun i p hp => ?_, fun i p hp => ?_, fun i p hp => ?_⟩
  · rw [(h i p hp).2.1, List.getElem?_replicate, if_pos (by rw [← hl]; exact get_lt hp)]
  · rw [(h i p hp).2.2.1, List.getElem?_replicate, if_pos (by rw [← hl]; exact get_lt hp)]
  · rw [(h i p hp).2.2.2.2.2, List.getElem?_replicate, if_pos (by rw [← hl]; exact get_lt hp)]
  · rw [(h i p hp).2.2.2.1]; exact List.Perm.refl _

set_option maxRecDepth 100000 in
set_option maxHeartbeats 4000000 in
theorem newProcs_any (w : World) (Bm : Nat) (lv rv sv : Value) (m : Mdl) (R : List RuleV) (hM : ModelAt w Bm lv rv sv m R) (hBm : Bm ≤ w.heap.size) (hm : Right m) :
    Calls Try.prog 59 #[.agg #[.int .i64 m.procs, .int .i64 m.states, .int .i64 m.loads, lv, rv, sv]] w fun e w' => ∃ (pb : Nat) (ps : List Pr), e = .returned (.slice (some ⟨pb, 0, none⟩) (np m) (np m)) ∧ Procs w' (w.heap.size + 1) pb (np m) ps ∧ Sim (np m) (c0 m).wait (c0 m).states (c0 m).seqs (c0 m).done ps ∧ (∀ p ∈ ps, p.pushed ≤ 12) ∧ Below w.heap.size w w' := by
  have hp1 := hm.lim.p1
  have hp2 := hm.lim.p2
  obtain ⟨n, hn⟩ : ∃ n : Nat, m.procs = (n : Int) := ⟨m.procs.toNat, by omega⟩
  have hnp : np m = n := by unfold np; omega
  have Hnp : Hid (np m = n) := hnp
  have hn6 : n ≤ 6 := by omega
  rw [hn, hnp]
  obtain ⟨ao2, cap2, hsv, hcap2⟩ := RowsAt.form hM.starts
  subst hsv
  have hns := hm.lim.ns
  have hmk1 := run_make_row' (P := Try.prog) 104 124 (.pointer none) 8 Try.underlying104 info_pp rfl .i64 .i64 n (by omega) (by omega)
  obtain ⟨W0, hW0⟩ : ∃ W0, W0 = w.alloc (.cells #[.int .i64 (n : Int), .int .i64 m.states, .int .i64 m.loads, lv, rv, .slice ao2 m.starts.length cap2] 31) := ⟨_, rfl⟩
  have HW0 : Hid (W0 = w.alloc (.cells #[.int .i64 (n : Int), .int .i64 m.states, .int .i64 m.loads, lv, rv, .slice ao2 m.starts.length cap2] 31)) := hW0
  have hB0 : Below w.heap.size w W0 := by rw [hW0]; exact (Below.refl _ _).alloc (Nat.le_refl _) _
  have hmb : Blk W0 w.heap.size #[.int .i64 (n : Int), .int .i64 m.states, .int .i64 m.loads, lv, rv, .slice ao2 m.starts.length cap2] 31 := by rw [hW0]; exact heap_alloc_new w _
  have hz : W0.heap.size = w.heap.size + 1 := by rw [hW0]; simp
  have Hz : Hid (W0.heap.size = w.heap.size + 1) := hz
  have hA : Blk (W0.alloc (.cells (madeCells #[.pointer none] n) 124)) (w.heap.size + 1) (madeCells #[.pointer none] n) 124 := blk_new hz.symm
  have hP0 : Procs (W0.alloc (.cells (madeCells #[.pointer none] n) 124)) (w.heap.size + 1) (w.heap.size + 1) n [] := by
    refine ⟨?_, fun p hp => by simp at hp, fun i j p q hp => by simp at hp, fun p hp => by simp at hp, Nat.le_refl _⟩
    show Blk _ _ ([] ++ List.replicate (n - 0) (Value.pointer none)).toArray _
    rw [List.nil_append, Nat.sub_zero, ← made_ptrs]
    exact hA
  have hbA : Below (w.heap.size + 1) W0 (W0.alloc (.cells (madeCells #[.pointer none] n) 124)) := (Below.refl _ _).alloc (by rw [hz]; exact Nat.le_refl _) _
  clear hn hnp hz hA
  have m0 : W0.cell? ⟨w.heap.size, 0, none⟩ = some (.int .i64 (n : Int)) := hmb.cell 0
  have hlm := hmb.lt
  go_enter Try.func59, Try.ntmps59
  go_upto_region 1 with fail
  rw [← HW0.out]
  clear hW0
  go_wp2
  rw [Hz.out]
  clear m0 hmk1
  go_loopw [12] (fun s12 wr => ∃ (k : Nat) (ps : List Pr), s12 = .int .i64 k ∧ k ≤ n ∧ ps.length = k ∧ Procs wr (w.heap.size + 1) (w.heap.size + 1) n ps ∧ (∀ (i : Nat) (p : Pr), ps[i]? = some p → fresh p i) ∧ Below (w.heap.size + 1) W0 wr) (fun s12 _ => n - (intOf s12).toNat)
  case atStart => exact ⟨0, [], rfl, Nat.zero_le _, rfl, hP0, fun i p hp => by simp at hp, hbA⟩
  case round =>
    clear hP0 hbA
    obtain ⟨k, ps, rfl, hk, hlen, hP, hfr, hbl⟩ := hrel
    have Hlen : Hid (ps.length = k) := hlen
    have hBk : w.heap.size + 1 ≤ wr.heap.size := by have := hbl.size; rw [Hz.out] at this; exact this
    by_cases hlt : k < n
    · have hnew := new_any 8 wr
      have hlp := hP.arr.lt
      go_wp2_with fail
      refine hnew.mono ?_
      rintro e1 w1 ⟨rfl, width, hw1, hw2, rfl⟩
      clear hnew
      have hkW : KeptF (fun _ => False) wr (((wr.alloc (.map #[] 0)).alloc (.cells #[.int .i64 width, .int .i64 0, .int .i64 0, .slice none 0 0, .map (some wr.heap.size)] 115)).alloc (.cells #[.int .i64 width, .int .i64 0, .int .i64 0, .slice none 0 0, .map (some wr.heap.size), .int .i64 (k : Int), .int .i64 0, .int .i64 0, .slice none 0 0] 126)) := (((KeptF.refl _ wr).alloc _).alloc _).alloc _
      have hPW := hP.grow hkW
      have hpb : Blk (((wr.alloc (.map #[] 0)).alloc (.cells #[.int .i64 width, .int .i64 0, .int .i64 0, .slice none 0 0, .map (some wr.heap.size)] 115)).alloc (.cells #[.int .i64 width, .int .i64 0, .int .i64 0, .slice none 0 0, .map (some wr.heap.size), .int .i64 (k : Int), .int .i64 0, .int .i64 0, .slice none 0 0] 126)) (wr.heap.size + 2) #[.int .i64 width, .int .i64 0, .int .i64 0, .slice none 0 0, .map (some wr.heap.size), .int .i64 (k : Int), .int .i64 0, .int .i64 0, .slice none 0 0] 126 := blk_new (by simp)
      have hmm : (((wr.alloc (.map #[] 0)).alloc (.cells #[.int .i64 width, .int .i64 0, .int .i64 0, .slice none 0 0, .map (some wr.heap.size)] 115)).alloc (.cells #[.int .i64 width, .int .i64 0, .int .i64 0, .slice none 0 0, .map (some wr.heap.size), .int .i64 (k : Int), .int .i64 0, .int .i64 0, .slice none 0 0] 126)).heap[wr.heap.size]? = some (.map #[] 0) := by
        have h1 : ((wr.alloc (.map #[] 0)).heap[wr.heap.size]?) = some (.map #[] 0) := heap_alloc_new wr _
        have k2 : KeptF (fun _ => False) (wr.alloc (.map #[] 0)) (((wr.alloc (.map #[] 0)).alloc (.cells #[.int .i64 width, .int .i64 0, .int .i64 0, .slice none 0 0, .map (some wr.heap.size)] 115)).alloc (.cells #[.int .i64 width, .int .i64 0, .int .i64 0, .slice none 0 0, .map (some wr.heap.size), .int .i64 (k : Int), .int .i64 0, .int .i64 0, .slice none 0 0] 126)) := ((KeptF.refl _ _).alloc _).alloc _
        rw [k2.block _ (by simp) (fun e => e)]; exact h1
      have hzW : (((wr.alloc (.map #[] 0)).alloc (.cells #[.int .i64 width, .int .i64 0, .int .i64 0, .slice none 0 0, .map (some wr.heap.size)] 115)).alloc (.cells #[.int .i64 width, .int .i64 0, .int .i64 0, .slice none 0 0, .map (some wr.heap.size), .int .i64 (k : Int), .int .i64 0, .int .i64 0, .slice none 0 0] 126)).heap.size = wr.heap.size + 3 := by simp
      have c9 : (((wr.alloc (.map #[] 0)).alloc (.cells #[.int .i64 width, .int .i64 0, .int .i64 0, .slice none 0 0, .map (some wr.heap.size)] 115)).alloc (.cells #[.int .i64 width, .int .i64 0, .int .i64 0, .slice none 0 0, .map (some wr.heap.size), .int .i64 (k : Int), .int .i64 0, .int .i64 0, .slice none 0 0] 126)).cell? ⟨w.heap.size + 1, k, none⟩ = some (.pointer none) := by
        rw [hPW.arr.cell, List.getElem?_toArray, List.getElem?_append_right (by simp [Hlen.out]), List.length_map, Hlen.out, Nat.sub_self, List.getElem?_replicate, if_pos (by omega)]
      have f9 : (((wr.alloc (.map #[] 0)).alloc (.cells #[.int .i64 width, .int .i64 0, .int .i64 0, .slice none 0 0, .map (some wr.heap.size)] 115)).alloc (.cells #[.int .i64 width, .int .i64 0, .int .i64 0, .slice none 0 0, .map (some wr.heap.size), .int .i64 (k : Int), .int .i64 0, .int .i64 0, .slice none 0 0] 126)).frozen? ⟨w.heap.size + 1, k, none⟩ = false := hPW.arr.frozen k
      go_wp2
      go_roundw
      case rel =>
        have hk2 : KeptF (fun i => i = w.heap.size + 1) (((wr.alloc (.map #[] 0)).alloc (.cells #[.int .i64 width, .int .i64 0, .int .i64 0, .slice none 0 0, .map (some wr.heap.size)] 115)).alloc (.cells #[.int .i64 width, .int .i64 0, .int .i64 0, .slice none 0 0, .map (some wr.heap.size), .int .i64 (k : Int), .int .i64 0, .int .i64 0, .slice none 0 0] 126)) ((((wr.alloc (.map #[] 0)).alloc (.cells #[.int .i64 width, .int .i64 0, .int .i64 0, .slice none 0 0, .map (some wr.heap.size)] 115)).alloc (.cells #[.int .i64 width, .int .i64 0, .int .i64 0, .slice none 0 0, .map (some wr.heap.size), .int .i64 (k : Int), .int .i64 0, .int .i64 0, .slice none 0 0] 126)).setCell ⟨w.heap.size + 1, k, none⟩ (.pointer (some ⟨wr.heap.size + 2, 0, none⟩))) := (KeptF.refl (fun i => i = w.heap.size + 1) _).setCell (p := ⟨w.heap.size + 1, k, none⟩) (.inl rfl) _
        have hne : wr.heap.size + 2 ≠ w.heap.size + 1 := by omega
        have hne2 : wr.heap.size ≠ w.heap.size + 1 := by omega
        have hPA : PAt ((((wr.alloc (.map #[] 0)).alloc (.cells #[.int .i64 width, .int .i64 0, .int .i64 0, .slice none 0 0, .map (some wr.heap.size)] 115)).alloc (.cells #[.int .i64 width, .int .i64 0, .int .i64 0, .slice none 0 0, .map (some wr.heap.size), .int .i64 (k : Int), .int .i64 0, .int .i64 0, .slice none 0 0] 126)).setCell ⟨w.heap.size + 1, k, none⟩ (.pointer (some ⟨wr.heap.size + 2, 0, none⟩))) (w.heap.size + 1) ⟨wr.heap.size + 2, wr.heap.size, .slice none 0 0, 0, [], width, 0, (k : Int), 0, 0, .slice none 0 0, []⟩ := by
          refine ⟨?_, fun y hy => by simp at hy, hw1, hw2, Nat.le_refl _, Nat.le_refl _, Own.nil _ _ _, fun g hg => by cases hg⟩
          refine QCore.empty _ (w.heap.size + 1) (wr.heap.size + 2) wr.heap.size width 126 #[.int .i64 (k : Int), .int .i64 0, .int .i64 0, .slice none 0 0] hBk (by omega) (by omega) ?_ ?_
          · rw [hk2.block _ (by rw [hzW]; omega) hne2]; exact hmm
          · exact hpb.keep hk2 hne
        have hPF : ∀ i, PF ⟨wr.heap.size + 2, wr.heap.size, .slice none 0 0, 0, [], width, 0, (k : Int), 0, 0, .slice none 0 0, []⟩ i → wr.heap.size ≤ i := by
          rintro i ((h1 | h1 | h1 | ⟨y, hy, _⟩) | h1)
          · simp only at h1; omega
          · simp only at h1; omega
          · cases h1
          · simp at hy
          · cases h1
        have hset := hPW.arr.set k (.pointer (some ⟨wr.heap.size + 2, 0, none⟩))
        refine ⟨k + 1, ps ++ [⟨wr.heap.size + 2, wr.heap.size, .slice none 0 0, 0, [], width, 0, (k : Int), 0, 0, .slice none 0 0, []⟩], by go_num, hlt, by rw [List.length_append, Hlen.out]; rfl, ?_, ?_, ?_⟩
        · refine hP.snoc (by rw [Hlen.out]; exact hlt) ((hkW.weaken (fun _ _ e => e.elim)).trans hk2) ?_ hPA hPF
          rw [Hlen.out]
          rw [Hlen.out] at hset
          exact hset
        · intro i p hp
          by_cases hi : i < ps.length
          · rw [List.getElem?_append_left hi] at hp; exact hfr i p hp
          · have h1 := get_lt hp
            rw [List.length_append, List.length_singleton] at h1
            have e : i = ps.length := by omega
            rw [e, List.getElem?_append_right (Nat.le_refl _), Nat.sub_self] at hp
            simp at hp
            subst hp
            refine ⟨?_, rfl, rfl, rfl, rfl, rfl⟩
            rw [e, Hlen.out]
        · refine hbl.trans (KeptF.below ((hkW.weaken (fun _ _ e => e.elim)).trans hk2) hBk (fun i hi => ?_))
          omega
      case measure => simp [intOf]; omega
    · have hke : k = n := by omega
      subst hke
      have hS := sim_fresh hlen hfr
      have hpu : ∀ p ∈ ps, p.pushed ≤ 0 := fun p hp => by
        obtain ⟨i, hi⟩ := List.getElem?_of_mem hp
        rw [(hfr i p hi).2.2.2.2.1]; exact Nat.le_refl _
      have m5 : wr.cell? ⟨w.heap.size, 5, none⟩ = some (.slice ao2 m.starts.length cap2) := (hbl.cell (p := ⟨w.heap.size, 5, none⟩) (Nat.lt_succ_self _)).trans (hmb.cell 5)
      clear hfr hlen
      go_wp2
      clear m5
      go_loopw [28] (fun s28 wr => ∃ (j : Nat) (ps : List Pr), s28 = .int .i64 j ∧ j ≤ m.starts.length ∧ Procs wr (w.heap.size + 1) (w.heap.size + 1) k ps ∧ Sim k ((c0 m).wait.take j) (List.replicate k 0) (List.replicate k 0) (List.replicate k []) ps ∧ (∀ p ∈ ps, p.pushed ≤ j) ∧ Below (w.heap.size + 1) W0 wr) (fun s28 _ => m.starts.length - (intOf s28).toNat)
      case atStart => exact ⟨0, ps, rfl, Nat.zero_le _, hP, by rw [List.take_zero]; exact hS, hpu, hbl⟩
      case round =>
        clear hP hS hpu hbl hBk hlt hk Hlen
        obtain ⟨j, ps, rfl, hj, hP, hS, hpu, hbl⟩ := hrel
        have hbw : Below w.heap.size w wr := hB0.trans (hbl.mono (by omega))
        have hBk : w.heap.size + 1 ≤ wr.heap.size := by have := hbl.size; rw [Hz.out] at this; exact this
        by_cases hlt : j < m.starts.length
        · obtain ⟨s, hs⟩ := get_of_lt hlt
          obtain ⟨b, off, hao, hbB, hc⟩ := RowsAt.at_ (hM.keep (hbw.mono hBm)).starts hs
          subst hao
          have x0 := hc 0 (.int .i64 s.p) rfl
          have x1 := hc 1 (.int .i64 s.t) rfl
          have x2 := hc 2 (.int .i64 s.l) rfl
          simp only [Nat.add_zero] at x0
          have hst := hm.start hs
          have Hs : Hid (m.starts[j]? = some s) := hs
          have hpk : s.p < (k : Int) := by have := Hnp.out; unfold np at this; omega
          obtain ⟨p, hp⟩ := get_of_lt (d := ps) (k := s.p.toNat) (by rw [hS.len]; omega)
          have Hp : Hid (ps[s.p.toNat]? = some p) := hp
          have hsb : Blk (wr.alloc (.cells #[.int .i64 s.p, .int .i64 s.t, .int .i64 s.l] 73)) wr.heap.size #[.int .i64 s.p, .int .i64 s.t, .int .i64 s.l] 73 := heap_alloc_new wr _
          have hPs := hP.grow ((KeptF.refl (fun _ => False) wr).alloc (.cells #[.int .i64 s.p, .int .i64 s.t, .int .i64 s.l] 73))
          have hPd := hPs.grow (KeptF.drew (KeptF.refl (fun _ => False) _))
          have cp := hP.cell hp
          have hlp : w.heap.size + 1 < wr.heap.size := hP.arr.lt
          have hppu := hpu p (List.mem_of_getElem? hp)
          have hpush := pPush _ (w.heap.size + 1) p ⟨s.t, -1, (j : Int), s.l⟩ (hPd.each p (List.mem_of_getElem? hp)) (by simp; omega) (by unfold InInt; simp only; omega) (by omega)
          have hlb : b < wr.heap.size := block_lt_of_cell x0
          have hlq : p.qb < wr.heap.size := (hP.each p (List.mem_of_getElem? hp)).core.blk.lt
          clear hs hc hp
          go_wp2
          refine still_tail' 13 (by kernel_rfl) (by kernel_rfl) ?_
          simp only [List.take_succ_cons, List.take_zero, List.drop_succ_cons, List.drop_zero]
          repeat still_step
          refine wpStill_nil ?_
          go_wp2_with fail
          refine hpush.mono ?_
          rintro e1 w2 ⟨rfl, p', hT, hpp, hits⟩
          clear hpush x0 x1 x2 cp
          go_wp2
          go_roundw
          case rel =>
            have hW : (c0 m).wait.take (j + 1) = (c0 m).wait.take j ++ [initEv j s] := by
              have h2 : (c0 m).wait[j]? = some (initEv j s) := by
                show (m.starts.mapIdx initEv)[j]? = _
                rw [List.getElem?_mapIdx, Hs.out]; rfl
              rw [List.take_add_one, h2]; rfl
            refine ⟨j + 1, ps.set s.p.toNat p', by go_num, hlt, hPd.turned Hp.out hT, ?_, ?_, ?_⟩
            · rw [hW]
              exact hS.push Hp.out (show s.p = ((s.p.toNat : Nat) : Int) by omega) hT.num hT.st hT.sent hT.dn hits
            · intro q hq
              obtain ⟨i, hi⟩ := List.getElem?_of_mem hq
              rcases set_get hi with ⟨_, e2⟩ | ⟨_, e2⟩
              · rw [e2, hpp]; omega
              · have := hpu q (List.mem_of_getElem? e2); omega
            · have hk1 : Below (w.heap.size + 1) wr (wr.alloc (.cells #[.int .i64 s.p, .int .i64 s.t, .int .i64 s.l] 73)).drew := KeptF.below (F := fun _ => False) (((KeptF.refl _ wr).alloc _).drew) hBk (fun i hi => hi.elim)
              exact hbl.trans (hk1.trans (KeptF.below hT.kept (by simp; omega) (fun i hi => ((hPd.each p (List.mem_of_getElem? Hp.out)).lt hi).1)))
          case measure => simp [intOf]; omega
        · have hje : j = m.starts.length := by omega
          subst hje
          go_wp2
          go_ret
          refine ⟨w.heap.size + 1, ps, rfl, hP, ?_, fun p hp => by have := hpu p hp; omega, hbw⟩
          have hl : (c0 m).wait.take m.starts.length = (c0 m).wait := List.take_of_length_le (by simp [c0])
          rw [hl] at hS
          have hst : (c0 m).states = List.replicate k 0 := by show List.replicate (np m) 0 = _; rw [Hnp.out]
          have hsq : (c0 m).seqs = List.replicate k 0 := by show List.replicate (np m) 0 = _; rw [Hnp.out]
          have hdn : (c0 m).done = List.replicate k [] := by show List.replicate (np m) [] = _; rw [Hnp.out]
          rw [hst, hsq, hdn]
          exact hS

end Go.Proofs.Ytbpaigpjffdcbaa
