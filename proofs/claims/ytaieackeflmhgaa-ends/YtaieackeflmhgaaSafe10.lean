/-
  The program: newProcesses.
  All that happens, told by what each process does: in order, and just what comes of the starts and of the emissions. Nothing of the program.
  A part of what happens: of each process a beginning of what it does. What can still come to a process; what is next there. Nothing of the program.
  The net, plainly: its state, and what a step does to it. Nothing of the program.
  The net's invariant: a part of what happens is done, and what waits or is under way is just what comes of that part. Nothing of the program.
-/
import Derived.Test.YtaieackeflmhgaaSafe6
import Derived.Test.YtaieackeflmhgaaSafe8
import Derived.Test.YtaieackeflmhgaaSafe9
import Derived.Test.YtaieackeflmhgaaSafe5
namespace Go.Proofs.Ytaieackeflmhgaa
open Go.RowKit Go.Sort Go.Maps

theorem made_ptrs (n : Nat) : madeCells #[Value.pointer none] n = (List.replicate n (Value.pointer none)).toArray := by
  apply Array.ext
  · simp [madeCells]
  · intro i h1 h2
    simp [madeCells, Nat.mod_one]
theorem info_pp : (Try.prog.info? 127).map (fun i => (i.zero, i.size, i.bytes)) = some (some (.pointer none), 1, 8) := by kernel_rfl

theorem set_snoc (a : List Value) (N : Nat) (y : Value) (h : a.length < N) : (a ++ List.replicate (N - a.length) (Value.pointer none)).toArray.setIfInBounds a.length y = ((a ++ [y]) ++ List.replicate (N - (a.length + 1)) (Value.pointer none)).toArray := by
  have e : N - a.length = (N - (a.length + 1)) + 1 := by omega
  rw [e, List.replicate_succ, List.setIfInBounds_toArray, List.set_append_right _ _ (Nat.le_refl _), Nat.sub_self]
  simp

theorem Procs.snoc {w w' : World} {B pb N : Nat} {ps : List Pr} {p : Pr} (h : Procs w B pb N ps) (hl : ps.length < N) (k : KeptF (fun i => i = pb) w w') (hb : Blk w' pb ((ps.map ptr ++ List.replicate (N - ps.length) (Value.pointer none)).toArray.setIfInBounds ps.length (ptr p)) 127)
    (hp : PAt w' B p) (hf : ∀ i, PF p i → w.heap.size ≤ i) : Procs w' B pb N (ps ++ [p]) := by
  have hget : ∀ (i : Nat) (q : Pr), (ps ++ [p])[i]? = some q → (i = ps.length ∧ q = p) ∨ (i < ps.length ∧ ps[i]? = some q) := by
    intro i q hq
    by_cases hi : i < ps.length
    · rw [List.getElem?_append_left hi] at hq; exact .inr ⟨hi, hq⟩
    · have := get_lt hq
      rw [List.length_append, List.length_singleton] at this
      have e : i = ps.length := by omega
      subst e
      rw [List.getElem?_append_right (Nat.le_refl _), Nat.sub_self] at hq
      simp at hq
      exact .inl ⟨rfl, hq.symm⟩
  have hlt : ∀ q ∈ ps, ∀ i, PF q i → i < w.heap.size := fun q hq i hi => ((h.each q hq).lt hi).2
  refine ⟨?_, ?_, ?_, ?_, h.low⟩
  · have e := set_snoc (ps.map ptr) N (ptr p) (by simpa using hl)
    rw [List.length_map] at e
    rw [e] at hb
    rw [List.map_append, List.length_append, List.length_singleton]
    exact hb
  · intro q hq
    rcases List.mem_append.1 hq with hq | hq
    · exact (h.each q hq).keep k (fun i hi e => h.out q hq (by subst e; exact hi))
    · simp at hq; subst hq; exact hp
  · intro i j x y hx hy hij c hc hc'
    rcases hget i x hx with ⟨e1, e2⟩ | ⟨e1, e2⟩
    · rcases hget j y hy with ⟨e3, _⟩ | ⟨e3, e4⟩
      · omega
      · subst e2
        have h1 := hf c hc
        have h2 := hlt y (List.mem_of_getElem? e4) c hc'
        omega
    · rcases hget j y hy with ⟨e3, e4⟩ | ⟨e3, e4⟩
      · subst e4
        have h1 := hf c hc'
        have h2 := hlt x (List.mem_of_getElem? e2) c hc
        omega
      · exact h.apart i j x y e2 e4 hij c hc hc'
  · intro q hq hk
    rcases List.mem_append.1 hq with hq | hq
    · exact h.out q hq hk
    · simp at hq; subst hq
      have h1 := hf pb hk
      have h2 := h.arr.lt
      omega

def fresh (p : Pr) (i : Nat) : Prop := p.num = (i : Int) ∧ p.st = 0 ∧ p.sent = 0 ∧ p.its = [] ∧ p.pushed = 0 ∧ p.dn = []
/-- a process's clock at the beginning, and that every push is seen -/
structure Clock0 (m : Mdl) (en : Int) (i : Nat) (p : Pr) : Prop where
  en : p.en = en
  hr : p.hr = hear0 m (i : Int) m.links.length
  ws : p.ws = ways0 m (i : Int) m.links.length
  pu : p.pushed = p.its.length

/-- the six cells of a model's block -/
def MC6 (W : World) (b : Nat) (c0 c1 c2 c3 c4 c5 : Value) : Prop := W.cell? ⟨b, 0, none⟩ = some c0 ∧ W.cell? ⟨b, 1, none⟩ = some c1 ∧ W.cell? ⟨b, 2, none⟩ = some c2 ∧ W.cell? ⟨b, 3, none⟩ = some c3 ∧ W.cell? ⟨b, 4, none⟩ = some c4 ∧ W.cell? ⟨b, 5, none⟩ = some c5
theorem MC6.keep {F : Nat → Prop} {W W' : World} {b : Nat} {c0 c1 c2 c3 c4 c5 : Value} (h : MC6 W b c0 c1 c2 c3 c4 c5) (k : KeptF F W W') (hF : ¬ F b) : MC6 W' b c0 c1 c2 c3 c4 c5 := by
  have hl := block_lt_of_cell h.1
  exact ⟨(k.cell (p := ⟨b, 0, none⟩) hl hF).trans h.1, (k.cell (p := ⟨b, 1, none⟩) hl hF).trans h.2.1, (k.cell (p := ⟨b, 2, none⟩) hl hF).trans h.2.2.1, (k.cell (p := ⟨b, 3, none⟩) hl hF).trans h.2.2.2.1, (k.cell (p := ⟨b, 4, none⟩) hl hF).trans h.2.2.2.2.1, (k.cell (p := ⟨b, 5, none⟩) hl hF).trans h.2.2.2.2.2⟩

theorem sim_fresh {N : Nat} {ps : List Pr} (hl : ps.length = N) (h : ∀ (i : Nat) (p : Pr), ps[i]? = some p → fresh p i) : Sim N [] (List.replicate N 0) (List.replicate N 0) (List.replicate N []) ps := by
  refine ⟨hl, fun i p hp => (h i p hp).1, fun i p hp => ?_, fun i p hp => ?_, fun i p hp => ?_, fun i p hp => ?_⟩
  · rw [(h i p hp).2.1, List.getElem?_replicate, if_pos (by rw [← hl]; exact get_lt hp)]
  · rw [(h i p hp).2.2.1, List.getElem?_replicate, if_pos (by rw [← hl]; exact get_lt hp)]
  · rw [(h i p hp).2.2.2.2.2, List.getElem?_replicate, if_pos (by rw [← hl]; exact get_lt hp)]
  · rw [(h i p hp).2.2.2.1]; exact List.Perm.refl _

set_option maxRecDepth 100000 in
set_option maxHeartbeats 8000000 in
theorem newProcs_any (w : World) (Bm : Nat) (lv rv sv : Value) (m : Mdl) (R : List RuleV) (en : Int) (hM : ModelAt w Bm lv rv sv m R) (hBm : Bm ≤ w.heap.size) (hm : Right m) :
    Calls Try.prog 63 #[.agg #[.int .i64 m.procs, .int .i64 m.states, .int .i64 m.loads, lv, rv, sv], .int .i64 en] w fun e w' => ∃ (pb : Nat) (ps : List Pr), e = .returned (.slice (some ⟨pb, 0, none⟩) (np m) (np m)) ∧ Procs w' (w.heap.size + 1) pb (np m) ps ∧ Sim (np m) (c0 m).wait (c0 m).states (c0 m).seqs (c0 m).done ps ∧ (∀ p ∈ ps, p.pushed ≤ 12) ∧ Below w.heap.size w w' ∧ (∀ (i : Nat) (p : Pr), ps[i]? = some p → Clock0 m en i p) := by
  have hp1 := hm.lim.p1
  have hp2 := hm.lim.p2
  obtain ⟨n, hn⟩ : ∃ n : Nat, m.procs = (n : Int) := ⟨m.procs.toNat, by omega⟩
  have hnp : np m = n := by unfold np; omega
  have Hnp : Hid (np m = n) := hnp
  have hn6 : n ≤ 6 := by omega
  have Hmn : Hid (m.procs = (n : Int)) := hn
  rw [hn, hnp]
  obtain ⟨ao2, cap2, hsv, hcap2⟩ := RowsAt.form hM.starts
  subst hsv
  obtain ⟨ao1, cap1, hlv, hcap1⟩ := RowsAt.form hM.links
  subst hlv
  obtain ⟨ao3, cap3, hrv, hcap3⟩ := RowsAt.form hM.rules.1
  subst hrv
  have hns := hm.lim.ns
  have hmk1 := run_make_row' (P := Try.prog) 107 127 (.pointer none) 8 Try.underlying107 info_pp rfl .i64 .i64 n (by omega) (by omega)
  obtain ⟨W0, hW0⟩ : ∃ W0, W0 = w.alloc (.cells #[.int .i64 (n : Int), .int .i64 m.states, .int .i64 m.loads, .slice ao1 m.links.length cap1, .slice ao3 R.length cap3, .slice ao2 m.starts.length cap2] 31) := ⟨_, rfl⟩
  have HW0 : Hid (W0 = w.alloc (.cells #[.int .i64 (n : Int), .int .i64 m.states, .int .i64 m.loads, .slice ao1 m.links.length cap1, .slice ao3 R.length cap3, .slice ao2 m.starts.length cap2] 31)) := hW0
  have hB0 : Below w.heap.size w W0 := by rw [hW0]; exact (Below.refl _ _).alloc (Nat.le_refl _) _
  have hmb : Blk W0 w.heap.size #[.int .i64 (n : Int), .int .i64 m.states, .int .i64 m.loads, .slice ao1 m.links.length cap1, .slice ao3 R.length cap3, .slice ao2 m.starts.length cap2] 31 := by rw [hW0]; exact heap_alloc_new w _
  have hz : W0.heap.size = w.heap.size + 1 := by rw [hW0]; simp
  have Hz : Hid (W0.heap.size = w.heap.size + 1) := hz
  have hA : Blk (W0.alloc (.cells (madeCells #[.pointer none] n) 127)) (w.heap.size + 1) (madeCells #[.pointer none] n) 127 := blk_new hz.symm
  have hP0 : Procs (W0.alloc (.cells (madeCells #[.pointer none] n) 127)) (w.heap.size + 1) (w.heap.size + 1) n [] := by
    refine ⟨?_, fun p hp => by simp at hp, fun i j p q hp => by simp at hp, fun p hp => by simp at hp, Nat.le_refl _⟩
    show Blk _ _ ([] ++ List.replicate (n - 0) (Value.pointer none)).toArray _
    rw [List.nil_append, Nat.sub_zero, ← made_ptrs]
    exact hA
  have hbA : Below (w.heap.size + 1) W0 (W0.alloc (.cells (madeCells #[.pointer none] n) 127)) := (Below.refl _ _).alloc (by rw [hz]; exact Nat.le_refl _) _
  clear hn hnp hz hA
  have m0 : W0.cell? ⟨w.heap.size, 0, none⟩ = some (.int .i64 (n : Int)) := hmb.cell 0
  have hlm := hmb.lt
  go_enter Try.func63, Try.ntmps63
  go_upto_region 1 with fail
  rw [← HW0.out]
  clear hW0
  go_wp2
  rw [Hz.out]
  clear m0 hmk1
  go_loopw [14] (fun s14 wr => ∃ (k : Nat) (ps : List Pr), s14 = .int .i64 k ∧ k ≤ n ∧ ps.length = k ∧ Procs wr (w.heap.size + 1) (w.heap.size + 1) n ps ∧ (∀ (i : Nat) (p : Pr), ps[i]? = some p → fresh p i ∧ Clock0 m en i p) ∧ Below (w.heap.size + 1) W0 wr) (fun s14 _ => n - (intOf s14).toNat)
  case atStart => exact ⟨0, [], rfl, Nat.zero_le _, rfl, hP0, fun i p hp => by simp at hp, hbA⟩
  case round =>
    clear hP0 hbA
    obtain ⟨k, ps, rfl, hk, hlen, hP, hfr, hbl⟩ := hrel
    have Hlen : Hid (ps.length = k) := hlen
    have hBk : w.heap.size + 1 ≤ wr.heap.size := by have := hbl.size; rw [Hz.out] at this; exact this
    by_cases hlt : k < n
    · have hlp := hP.arr.lt
      have hmw : Blk wr w.heap.size #[.int .i64 (n : Int), .int .i64 m.states, .int .i64 m.loads, .slice ao1 m.links.length cap1, .slice ao3 R.length cap3, .slice ao2 m.starts.length cap2] 31 := (hbl.block _ (Nat.lt_succ_self _)).trans hmb
      have hS0 : MC6 wr w.heap.size (.int .i64 (n : Int)) (.int .i64 m.states) (.int .i64 m.loads) (.slice ao1 m.links.length cap1) (.slice ao3 R.length cap3) (.slice ao2 m.starts.length cap2) := ⟨hmw.cell 0, hmw.cell 1, hmw.cell 2, hmw.cell 3, hmw.cell 4, hmw.cell 5⟩
      have hS0d : MC6 wr.drew w.heap.size (.int .i64 (n : Int)) (.int .i64 m.states) (.int .i64 m.loads) (.slice ao1 m.links.length cap1) (.slice ao3 R.length cap3) (.slice ao2 m.starts.length cap2) := hS0
      go_wp2
      refine wp_region_held_drew (S := (fun W => MC6 W w.heap.size (.int .i64 (n : Int)) (.int .i64 m.states) (.int .i64 m.loads) (.slice ao1 m.links.length cap1) (.slice ao3 R.length cap3) (.slice ao2 m.starts.length cap2))) (by kernel_rfl) ?_ (fun hHeld => ?_)
      · (try dsimp only)
        assumption
      refine takeL 0 (v := ?_) rfl (by kernel_rfl) (by kernel_rfl) (by kernel_rfl) (fun _ _ _ h => h) (by rfl) ?_ (by assumption) ?_
      rotate_left
      · intro w hSw
        (try simp only [MC6] at hSw)
        go_simp
        all_goals with_reducible rfl
      try simp only [Act.put, List.setIfInBounds_toArray, List.set_cons_zero, List.set_cons_succ]
      refine takeL 1 (v := ?_) rfl (by kernel_rfl) (by kernel_rfl) (by kernel_rfl) (fun _ _ _ h => h) (by rfl) ?_ (by assumption) ?_
      rotate_left
      · intro w hSw
        (try simp only [MC6] at hSw)
        go_simp
        all_goals with_reducible rfl
      try simp only [Act.put, List.setIfInBounds_toArray, List.set_cons_zero, List.set_cons_succ]
      refine takeL 5 (v := ?_) rfl (by kernel_rfl) (by kernel_rfl) (by kernel_rfl) (fun _ _ _ h => h) (by rfl) ?_ (by assumption) ?_
      rotate_left
      · intro w hSw
        (try simp only [MC6] at hSw)
        go_simp
        all_goals with_reducible rfl
      try simp only [Act.put, List.setIfInBounds_toArray, List.set_cons_zero, List.set_cons_succ]
      refine takeL 6 (v := ?_) rfl (by kernel_rfl) (by kernel_rfl) (by kernel_rfl) (fun _ _ _ h => h) (by rfl) ?_ (by assumption) ?_
      rotate_left
      · intro w hSw
        (try simp only [MC6] at hSw)
        go_simp
        all_goals with_reducible rfl
      try simp only [Act.put, List.setIfInBounds_toArray, List.set_cons_zero, List.set_cons_succ]
      refine takeL 7 (v := ?_) rfl (by kernel_rfl) (by kernel_rfl) (by kernel_rfl) (fun _ _ _ h => h) (by rfl) ?_ (by assumption) ?_
      rotate_left
      · intro w hSw
        (try simp only [MC6] at hSw)
        go_simp
        all_goals with_reducible rfl
      try simp only [Act.put, List.setIfInBounds_toArray, List.set_cons_zero, List.set_cons_succ]
      refine takeL 9 (v := ?_) rfl (by kernel_rfl) (by kernel_rfl) (by kernel_rfl) (fun _ _ _ h => h) (by rfl) ?_ (by assumption) ?_
      rotate_left
      · intro w hSw
        (try simp only [MC6] at hSw)
        go_simp
        all_goals with_reducible rfl
      try simp only [Act.put, List.setIfInBounds_toArray, List.set_cons_zero, List.set_cons_succ]
      refine wpAnyH_ready (rs := [2]) (by kernel_rfl) (by simp) ?_
      refine consL rfl (fun K hK => ?_) AllReadyH.nil
      go_simp
      refine (new_any 8 wr.drew).mono ?_
      rintro e1 w1 ⟨rfl, width, hw1, hw2, hw1e⟩
      rw [show wr.drew.heap.size = wr.heap.size from rfl] at hw1e
      rw [show wr.drew.heap.size = wr.heap.size from rfl]
      have hkq : KeptF (fun _ => False) wr w1 := by rw [hw1e]; exact ((KeptF.drew (KeptF.refl _ wr)).alloc _).alloc _
      have hzq : w1.heap.size = wr.heap.size + 2 := by rw [hw1e]; simp
      have hqb : Blk w1 (wr.heap.size + 1) #[.int .i64 width, .int .i64 0, .int .i64 0, .slice none 0 0, .map (some wr.heap.size)] 118 := by rw [hw1e]; exact blk_newP (by simp)
      have hmm1 : w1.heap[wr.heap.size]? = some (.map #[] 0) := by
        rw [hw1e]
        exact (Below.heap_alloc _ _ _ (by simp)).trans (heap_alloc_new wr.drew _)
      have p0 : w1.cell? ⟨wr.heap.size + 1, 0, none⟩ = some (.int .i64 width) := hqb.cell 0
      have p1 : w1.cell? ⟨wr.heap.size + 1, 1, none⟩ = some (.int .i64 0) := hqb.cell 1
      have p2 : w1.cell? ⟨wr.heap.size + 1, 2, none⟩ = some (.int .i64 0) := hqb.cell 2
      have p3 : w1.cell? ⟨wr.heap.size + 1, 3, none⟩ = some (.slice none 0 0) := hqb.cell 3
      have p4 : w1.cell? ⟨wr.heap.size + 1, 4, none⟩ = some (.map (some wr.heap.size)) := hqb.cell 4
      have hSq := hS0.keep hkq (fun e => e)
      have Hzq : Hid (w1.heap.size = wr.heap.size + 2) := hzq
      clear hw1e hzq
      go_wp2_with fail
      refine hK.out _ _ ?_ (fun hHeld => ?_)
      · (try dsimp only)
        assumption
      clear hK K
      try simp only [Act.put, List.setIfInBounds_toArray, List.set_cons_zero, List.set_cons_succ]
      refine takeL 3 (v := ?_) rfl (by kernel_rfl) (by kernel_rfl) (by kernel_rfl) (fun _ _ _ h => h) (by rfl) ?_ (by assumption) ?_
      rotate_left
      · intro w hSw
        (try simp only [MC6] at hSw)
        go_simp
        all_goals with_reducible rfl
      try simp only [Act.put, List.setIfInBounds_toArray, List.set_cons_zero, List.set_cons_succ]
      refine wpAnyH_ready (rs := [4, 8]) (by kernel_rfl) (by simp) ?_
      refine consL rfl (fun K hK => ?_) (consL rfl (fun K hK => ?_) AllReadyH.nil)
      go_simp
      refine hK.out _ _ ?_ (fun hHeld => ?_)
      · (try dsimp only)
        assumption
      clear hK K
      try simp only [Act.put, List.setIfInBounds_toArray, List.set_cons_zero, List.set_cons_succ]
      refine wpAnyH_ready (rs := [8]) (by kernel_rfl) (by simp) ?_
      refine consL rfl (fun K hK => ?_) AllReadyH.nil
      go_simp
      have hbw1 : Below w.heap.size w w1 := hB0.trans ((hbl.trans (KeptF.below hkq hBk (fun _ e => e.elim))).mono (Nat.le_succ _))
      have hcl := newClock_any w1 Bm (.slice ao1 m.links.length cap1) (.slice ao3 R.length cap3) (.slice ao2 m.starts.length cap2) m R (k : Int) en (hM.keep (hbw1.mono hBm)) (Nat.le_trans hBm hbw1.size) hm
      rw [Hmn.out] at hcl
      refine hcl.mono ?_
      rintro e2 w2 ⟨hb, wv, rfl, hmp, hO, hhb, hwh, hb2⟩
      obtain ⟨aw, nw, cw, hwf⟩ : ∃ aw nw cw, wv = .slice aw nw cw := by obtain ⟨aw, cw, h1, _⟩ := hO.form'; exact ⟨aw, _, cw, h1⟩
      subst hwf
      rw [Hzq.out] at hO hhb
      have hk2 : KeptF (fun _ => False) w1 w2 := kept_of_below' hb2
      have hqb2 := hqb.keep hk2 (fun e => e)
      have hmm2 : w2.heap[wr.heap.size]? = some (.map #[] 0) := (hk2.block _ (by rw [Hzq.out]; omega) (fun e => e)).trans hmm1
      have q0 : w2.cell? ⟨wr.heap.size + 1, 0, none⟩ = some (.int .i64 width) := hqb2.cell 0
      have q1 : w2.cell? ⟨wr.heap.size + 1, 1, none⟩ = some (.int .i64 0) := hqb2.cell 1
      have q2 : w2.cell? ⟨wr.heap.size + 1, 2, none⟩ = some (.int .i64 0) := hqb2.cell 2
      have q3 : w2.cell? ⟨wr.heap.size + 1, 3, none⟩ = some (.slice none 0 0) := hqb2.cell 3
      have q4 : w2.cell? ⟨wr.heap.size + 1, 4, none⟩ = some (.map (some wr.heap.size)) := hqb2.cell 4
      have hz2 : wr.heap.size + 2 ≤ w2.heap.size := by have := hb2.size; rw [Hzq.out] at this; exact this
      have hkW : KeptF (fun _ => False) wr (w2.alloc (.cells #[.int .i64 width, .int .i64 0, .int .i64 0, .slice none 0 0, .map (some wr.heap.size), .int .i64 en, .map (some hb), .slice aw nw cw, .int .i64 (k : Int), .int .i64 0, .int .i64 0, .slice none 0 0] 133)) := (hkq.trans hk2).alloc _
      have hPW := hP.grow hkW
      have c9 : (w2.alloc (.cells #[.int .i64 width, .int .i64 0, .int .i64 0, .slice none 0 0, .map (some wr.heap.size), .int .i64 en, .map (some hb), .slice aw nw cw, .int .i64 (k : Int), .int .i64 0, .int .i64 0, .slice none 0 0] 133)).cell? ⟨w.heap.size + 1, k, none⟩ = some (.pointer none) := by
        rw [hPW.arr.cell, List.getElem?_toArray, List.getElem?_append_right (by simp [Hlen.out]), List.length_map, Hlen.out, Nat.sub_self, List.getElem?_replicate, if_pos (by omega)]
      have f9 : (w2.alloc (.cells #[.int .i64 width, .int .i64 0, .int .i64 0, .slice none 0 0, .map (some wr.heap.size), .int .i64 en, .map (some hb), .slice aw nw cw, .int .i64 (k : Int), .int .i64 0, .int .i64 0, .slice none 0 0] 133)).frozen? ⟨w.heap.size + 1, k, none⟩ = false := hPW.arr.frozen k
      have hk3 : KeptF (fun i => i = w.heap.size + 1) (w2.alloc (.cells #[.int .i64 width, .int .i64 0, .int .i64 0, .slice none 0 0, .map (some wr.heap.size), .int .i64 en, .map (some hb), .slice aw nw cw, .int .i64 (k : Int), .int .i64 0, .int .i64 0, .slice none 0 0] 133)) ((w2.alloc (.cells #[.int .i64 width, .int .i64 0, .int .i64 0, .slice none 0 0, .map (some wr.heap.size), .int .i64 en, .map (some hb), .slice aw nw cw, .int .i64 (k : Int), .int .i64 0, .int .i64 0, .slice none 0 0] 133)).setCell ⟨w.heap.size + 1, k, none⟩ (.pointer (some ⟨w2.heap.size, 0, none⟩))) := (KeptF.refl (fun i => i = w.heap.size + 1) _).setCell (p := ⟨w.heap.size + 1, k, none⟩) (.inl rfl) _
      have hSc := hSq.keep hk2 (fun e => e)
      have hSp := hSc.keep ((KeptF.refl (fun _ => False) w2).alloc (.cells #[.int .i64 width, .int .i64 0, .int .i64 0, .slice none 0 0, .map (some wr.heap.size), .int .i64 en, .map (some hb), .slice aw nw cw, .int .i64 (k : Int), .int .i64 0, .int .i64 0, .slice none 0 0] 133)) (fun e => e)
      have hSe := hSp.keep hk3 (by omega)
      clear hcl
      go_wp2_with fail
      refine hK.out _ _ ?_ (fun hHeld => ?_)
      · (try dsimp only)
        assumption
      clear hK K
      try simp only [Act.put, List.setIfInBounds_toArray, List.set_cons_zero, List.set_cons_succ]
      refine takeL 10 (v := ?_) rfl (by kernel_rfl) (by kernel_rfl) (by kernel_rfl) (fun _ _ _ h => h) (by rfl) ?_ (by assumption) ?_
      rotate_left
      · intro w hSw
        (try simp only [MC6] at hSw)
        go_simp
        all_goals with_reducible rfl
      try simp only [Act.put, List.setIfInBounds_toArray, List.set_cons_zero, List.set_cons_succ]
      refine wpAnyH_ready (rs := [11]) (by kernel_rfl) (by simp) ?_
      refine consL rfl (fun K hK => ?_) AllReadyH.nil
      go_simp
      refine hK.out _ _ ?_ (fun hHeld => ?_)
      · (try dsimp only)
        assumption
      clear hK K
      try simp only [Act.put, List.setIfInBounds_toArray, List.set_cons_zero, List.set_cons_succ]
      refine takeL 12 (v := ?_) rfl (by kernel_rfl) (by kernel_rfl) (by kernel_rfl) (fun _ _ _ h => h) (by rfl) ?_ (by assumption) ?_
      rotate_left
      · intro w hSw
        (try simp only [MC6] at hSw)
        go_simp
        all_goals with_reducible rfl
      try simp only [Act.put, List.setIfInBounds_toArray, List.set_cons_zero, List.set_cons_succ]
      refine wpAnyH_ready (rs := [13]) (by kernel_rfl) (by simp) ?_
      refine consL rfl (fun K hK => ?_) AllReadyH.nil
      go_simp
      refine hK.out _ _ ?_ (fun hHeld => ?_)
      · (try dsimp only)
        assumption
      clear hK K
      try simp only [Act.put, List.setIfInBounds_toArray, List.set_cons_zero, List.set_cons_succ]
      refine wpAnyH_done (by kernel_rfl) ?_ _
      rotate_left 1
      go_simp
      have hbw1 : Below w.heap.size w w1 := hB0.trans ((hbl.trans (KeptF.below hkq hBk (fun _ e => e.elim))).mono (Nat.le_succ _))
      have hcl := newClock_any w1 Bm (.slice ao1 m.links.length cap1) (.slice ao3 R.length cap3) (.slice ao2 m.starts.length cap2) m R (k : Int) en (hM.keep (hbw1.mono hBm)) (Nat.le_trans hBm hbw1.size) hm
      rw [Hmn.out] at hcl
      refine hcl.mono ?_
      rintro e2 w2 ⟨hb, wv, rfl, hmp, hO, hhb, hwh, hb2⟩
      obtain ⟨aw, nw, cw, hwf⟩ : ∃ aw nw cw, wv = .slice aw nw cw := by obtain ⟨aw, cw, h1, _⟩ := hO.form'; exact ⟨aw, _, cw, h1⟩
      subst hwf
      rw [Hzq.out] at hO hhb
      have hk2 : KeptF (fun _ => False) w1 w2 := kept_of_below' hb2
      have hqb2 := hqb.keep hk2 (fun e => e)
      have hmm2 : w2.heap[wr.heap.size]? = some (.map #[] 0) := (hk2.block _ (by rw [Hzq.out]; omega) (fun e => e)).trans hmm1
      have q0 : w2.cell? ⟨wr.heap.size + 1, 0, none⟩ = some (.int .i64 width) := hqb2.cell 0
      have q1 : w2.cell? ⟨wr.heap.size + 1, 1, none⟩ = some (.int .i64 0) := hqb2.cell 1
      have q2 : w2.cell? ⟨wr.heap.size + 1, 2, none⟩ = some (.int .i64 0) := hqb2.cell 2
      have q3 : w2.cell? ⟨wr.heap.size + 1, 3, none⟩ = some (.slice none 0 0) := hqb2.cell 3
      have q4 : w2.cell? ⟨wr.heap.size + 1, 4, none⟩ = some (.map (some wr.heap.size)) := hqb2.cell 4
      have hz2 : wr.heap.size + 2 ≤ w2.heap.size := by have := hb2.size; rw [Hzq.out] at this; exact this
      have hkW : KeptF (fun _ => False) wr (w2.alloc (.cells #[.int .i64 width, .int .i64 0, .int .i64 0, .slice none 0 0, .map (some wr.heap.size), .int .i64 en, .map (some hb), .slice aw nw cw, .int .i64 (k : Int), .int .i64 0, .int .i64 0, .slice none 0 0] 133)) := (hkq.trans hk2).alloc _
      have hPW := hP.grow hkW
      have c9 : (w2.alloc (.cells #[.int .i64 width, .int .i64 0, .int .i64 0, .slice none 0 0, .map (some wr.heap.size), .int .i64 en, .map (some hb), .slice aw nw cw, .int .i64 (k : Int), .int .i64 0, .int .i64 0, .slice none 0 0] 133)).cell? ⟨w.heap.size + 1, k, none⟩ = some (.pointer none) := by
        rw [hPW.arr.cell, List.getElem?_toArray, List.getElem?_append_right (by simp [Hlen.out]), List.length_map, Hlen.out, Nat.sub_self, List.getElem?_replicate, if_pos (by omega)]
      have f9 : (w2.alloc (.cells #[.int .i64 width, .int .i64 0, .int .i64 0, .slice none 0 0, .map (some wr.heap.size), .int .i64 en, .map (some hb), .slice aw nw cw, .int .i64 (k : Int), .int .i64 0, .int .i64 0, .slice none 0 0] 133)).frozen? ⟨w.heap.size + 1, k, none⟩ = false := hPW.arr.frozen k
      have hk3 : KeptF (fun i => i = w.heap.size + 1) (w2.alloc (.cells #[.int .i64 width, .int .i64 0, .int .i64 0, .slice none 0 0, .map (some wr.heap.size), .int .i64 en, .map (some hb), .slice aw nw cw, .int .i64 (k : Int), .int .i64 0, .int .i64 0, .slice none 0 0] 133)) ((w2.alloc (.cells #[.int .i64 width, .int .i64 0, .int .i64 0, .slice none 0 0, .map (some wr.heap.size), .int .i64 en, .map (some hb), .slice aw nw cw, .int .i64 (k : Int), .int .i64 0, .int .i64 0, .slice none 0 0] 133)).setCell ⟨w.heap.size + 1, k, none⟩ (.pointer (some ⟨w2.heap.size, 0, none⟩))) := (KeptF.refl (fun i => i = w.heap.size + 1) _).setCell (p := ⟨w.heap.size + 1, k, none⟩) (.inl rfl) _
      have hSc := hSq.keep hk2 (fun e => e)
      have hSp := hSc.keep ((KeptF.refl (fun _ => False) w2).alloc (.cells #[.int .i64 width, .int .i64 0, .int .i64 0, .slice none 0 0, .map (some wr.heap.size), .int .i64 en, .map (some hb), .slice aw nw cw, .int .i64 (k : Int), .int .i64 0, .int .i64 0, .slice none 0 0] 133)) (fun e => e)
      have hSe := hSp.keep hk3 (by omega)
      clear hcl
      go_wp2_with fail
      refine hK.out _ _ ?_ (fun hHeld => ?_)
      · (try dsimp only)
        assumption
      clear hK K
      try simp only [Act.put, List.setIfInBounds_toArray, List.set_cons_zero, List.set_cons_succ]
      refine wpAnyH_ready (rs := [4]) (by kernel_rfl) (by simp) ?_
      refine consL rfl (fun K hK => ?_) AllReadyH.nil
      go_simp
      refine hK.out _ _ ?_ (fun hHeld => ?_)
      · (try dsimp only)
        assumption
      clear hK K
      try simp only [Act.put, List.setIfInBounds_toArray, List.set_cons_zero, List.set_cons_succ]
      refine takeL 10 (v := ?_) rfl (by kernel_rfl) (by kernel_rfl) (by kernel_rfl) (fun _ _ _ h => h) (by rfl) ?_ (by assumption) ?_
      rotate_left
      · intro w hSw
        (try simp only [MC6] at hSw)
        go_simp
        all_goals with_reducible rfl
      try simp only [Act.put, List.setIfInBounds_toArray, List.set_cons_zero, List.set_cons_succ]
      refine wpAnyH_ready (rs := [11]) (by kernel_rfl) (by simp) ?_
      refine consL rfl (fun K hK => ?_) AllReadyH.nil
      go_simp
      refine hK.out _ _ ?_ (fun hHeld => ?_)
      · (try dsimp only)
        assumption
      clear hK K
      try simp only [Act.put, List.setIfInBounds_toArray, List.set_cons_zero, List.set_cons_succ]
      refine takeL 12 (v := ?_) rfl (by kernel_rfl) (by kernel_rfl) (by kernel_rfl) (fun _ _ _ h => h) (by rfl) ?_ (by assumption) ?_
      rotate_left
      · intro w hSw
        (try simp only [MC6] at hSw)
        go_simp
        all_goals with_reducible rfl
      try simp only [Act.put, List.setIfInBounds_toArray, List.set_cons_zero, List.set_cons_succ]
      refine wpAnyH_ready (rs := [13]) (by kernel_rfl) (by simp) ?_
      refine consL rfl (fun K hK => ?_) AllReadyH.nil
      go_simp
      refine hK.out _ _ ?_ (fun hHeld => ?_)
      · (try dsimp only)
        assumption
      clear hK K
      try simp only [Act.put, List.setIfInBounds_toArray, List.set_cons_zero, List.set_cons_succ]
      refine wpAnyH_done (by kernel_rfl) ?_ _
      rotate_left 1
      all_goals
        go_wp2
        go_roundw
        case rel =>
          have hne : w2.heap.size ≠ w.heap.size + 1 := by omega
          have hPA : PAt ((w2.alloc (.cells #[.int .i64 width, .int .i64 0, .int .i64 0, .slice none 0 0, .map (some wr.heap.size), .int .i64 en, .map (some hb), .slice aw nw cw, .int .i64 (k : Int), .int .i64 0, .int .i64 0, .slice none 0 0] 133)).setCell ⟨w.heap.size + 1, k, none⟩ (.pointer (some ⟨w2.heap.size, 0, none⟩))) (w.heap.size + 1) (⟨w2.heap.size, wr.heap.size, .slice none 0 0, 0, [], width, 0, en, hb, hear0 m (k : Int) m.links.length, .slice aw nw cw, ways0 m (k : Int) m.links.length, (k : Int), 0, 0, .slice none 0 0, []⟩ : Pr) := by
            refine ⟨?_, fun y hy => by simp at hy, hw1, hw2, Nat.le_refl _, Nat.le_refl _, Own.nil _ _ _, fun g hg => by (cases hg), ?_, ?_, ?_, hwh, ?_⟩
            · refine QCore.empty _ (w.heap.size + 1) w2.heap.size wr.heap.size width 133 #[.int .i64 en, .map (some hb), .slice aw nw cw, .int .i64 (k : Int), .int .i64 0, .int .i64 0, .slice none 0 0] hBk (by omega) (by omega) ?_ ?_
              · rw [hk3.block _ (by simp; omega) (by omega)]
                exact (Below.heap_alloc _ _ _ (by omega)).trans hmm2
              · exact (blk_newP rfl).keep hk3 hne
            · exact (hmp.keep ((KeptF.refl (fun _ => False) w2).alloc _) (fun e => e)).keep hk3 (by omega)
            · show w.heap.size + 1 ≤ hb
              omega
            · exact ((hO.mono (show w.heap.size + 1 ≤ wr.heap.size + 2 by omega)).keep ((KeptF.refl (fun _ => False) w2).alloc _) (fun _ _ e => e)).keep hk3 (fun g hg e => by have := (hO.lt hg).1; omega)
            · intro g hg
              have hgl : wr.heap.size + 2 ≤ g ∧ g < w2.heap.size := by
                rcases hg with h1 | h1
                · subst h1; exact ⟨hhb, hmp.lt⟩
                · exact hO.lt h1
              refine ⟨?_, fun e => by cases e⟩
              rintro (h1 | h1 | h1 | ⟨y, hy, _⟩)
              · simp only at h1; omega
              · simp only at h1; omega
              · cases h1
              · simp at hy
          have hPF : ∀ i, PF (⟨w2.heap.size, wr.heap.size, .slice none 0 0, 0, [], width, 0, en, hb, hear0 m (k : Int) m.links.length, .slice aw nw cw, ways0 m (k : Int) m.links.length, (k : Int), 0, 0, .slice none 0 0, []⟩ : Pr) i → wr.heap.size ≤ i := by
            rintro i ((h1 | h1 | h1 | ⟨y, hy, _⟩) | h1 | h1 | h1)
            · simp only at h1; omega
            · simp only at h1; omega
            · cases h1
            · simp at hy
            · cases h1
            · have h1 : i = hb := h1
              omega
            · have := (hO.lt h1).1
              omega
          have hset := hPW.arr.set k (.pointer (some ⟨w2.heap.size, 0, none⟩))
          refine ⟨k + 1, ps ++ [(⟨w2.heap.size, wr.heap.size, .slice none 0 0, 0, [], width, 0, en, hb, hear0 m (k : Int) m.links.length, .slice aw nw cw, ways0 m (k : Int) m.links.length, (k : Int), 0, 0, .slice none 0 0, []⟩ : Pr)], by go_num, hlt, by rw [List.length_append, Hlen.out]; rfl, ?_, ?_, ?_⟩
          · refine hP.snoc (by rw [Hlen.out]; exact hlt) ((hkW.weaken (fun _ _ e => e.elim)).trans hk3) ?_ hPA hPF
            rw [Hlen.out]
            rw [Hlen.out] at hset
            exact hset
          · intro i p hp
            by_cases hi : i < ps.length
            · rw [List.getElem?_append_left hi] at hp; exact hfr i p hp
            · have h1 := get_lt hp
              rw [List.length_append, List.length_singleton] at h1
              have e : i = ps.length := by omega
              rw [e, List.getElem?_append_right (Nat.le_refl _), Nat.sub_self] at hp
              simp at hp
              subst hp
              rw [Hlen.out] at e
              subst e
              exact ⟨⟨rfl, rfl, rfl, rfl, rfl, rfl⟩, ⟨rfl, rfl, rfl, rfl⟩⟩
          · refine hbl.trans (KeptF.below ((hkW.weaken (fun _ _ e => e.elim)).trans hk3) hBk (fun i hi => ?_))
            omega
        case measure => simp [intOf]; omega
    · have hke : k = n := by omega
      subst hke
      have hS := sim_fresh hlen (fun i p hp => (hfr i p hp).1)
      have hC0 : ∀ (i : Nat) (p : Pr), ps[i]? = some p → Clock0 m en i p := fun i p hp => (hfr i p hp).2
      have hpu : ∀ p ∈ ps, p.pushed ≤ 0 := fun p hp => by
        obtain ⟨i, hi⟩ := List.getElem?_of_mem hp
        rw [(hfr i p hi).1.2.2.2.2.1]; exact Nat.le_refl _
      have m5 : wr.cell? ⟨w.heap.size, 5, none⟩ = some (.slice ao2 m.starts.length cap2) := (hbl.cell (p := ⟨w.heap.size, 5, none⟩) (Nat.lt_succ_self _)).trans (hmb.cell 5)
      clear hfr hlen
      go_wp2
      clear m5
      go_loopw [34] (fun s34 wr => ∃ (j : Nat) (ps : List Pr), s34 = .int .i64 j ∧ j ≤ m.starts.length ∧ Procs wr (w.heap.size + 1) (w.heap.size + 1) k ps ∧ Sim k ((c0 m).wait.take j) (List.replicate k 0) (List.replicate k 0) (List.replicate k []) ps ∧ (∀ p ∈ ps, p.pushed ≤ j) ∧ Below (w.heap.size + 1) W0 wr ∧ (∀ (i : Nat) (p : Pr), ps[i]? = some p → Clock0 m en i p)) (fun s34 _ => m.starts.length - (intOf s34).toNat)
      case atStart => exact ⟨0, ps, rfl, Nat.zero_le _, hP, by rw [List.take_zero]; exact hS, hpu, hbl, hC0⟩
      case round =>
        clear hP hS hpu hbl hBk hlt hk Hlen hC0
        obtain ⟨j, ps, rfl, hj, hP, hS, hpu, hbl, hC⟩ := hrel
        have hbw : Below w.heap.size w wr := hB0.trans (hbl.mono (by omega))
        have hBk : w.heap.size + 1 ≤ wr.heap.size := by have := hbl.size; rw [Hz.out] at this; exact this
        by_cases hlt : j < m.starts.length
        · obtain ⟨s, hs⟩ := get_of_lt hlt
          obtain ⟨b, off, hao, hbB, hc⟩ := RowsAt.at_ (hM.keep (hbw.mono hBm)).starts hs
          subst hao
          have x0 := hc 0 (.int .i64 s.p) rfl
          have x1 := hc 1 (.int .i64 s.t) rfl
          have x2 := hc 2 (.int .i64 s.l) rfl
          simp only [Nat.add_zero] at x0
          have hst := hm.start hs
          have Hs : Hid (m.starts[j]? = some s) := hs
          have hpk : s.p < (k : Int) := by have := Hnp.out; unfold np at this; omega
          obtain ⟨p, hp⟩ := get_of_lt (d := ps) (k := s.p.toNat) (by rw [hS.len]; omega)
          have Hp : Hid (ps[s.p.toNat]? = some p) := hp
          have hsb : Blk (wr.alloc (.cells #[.int .i64 s.p, .int .i64 s.t, .int .i64 s.l] 73)) wr.heap.size #[.int .i64 s.p, .int .i64 s.t, .int .i64 s.l] 73 := heap_alloc_new wr _
          have hPs := hP.grow ((KeptF.refl (fun _ => False) wr).alloc (.cells #[.int .i64 s.p, .int .i64 s.t, .int .i64 s.l] 73))
          have hPd := hPs.grow (KeptF.drew (KeptF.refl (fun _ => False) _))
          have cp := hP.cell hp
          have hlp : w.heap.size + 1 < wr.heap.size := hP.arr.lt
          have hppu := hpu p (List.mem_of_getElem? hp)
          have hpush := pPush _ (w.heap.size + 1) p ⟨s.t, -1, (j : Int), s.l⟩ (hPd.each p (List.mem_of_getElem? hp)) (by simp; omega) (by unfold InInt; simp only; omega) (by omega)
          have hlb : b < wr.heap.size := block_lt_of_cell x0
          have hlq : p.qb < wr.heap.size := (hP.each p (List.mem_of_getElem? hp)).core.blk.lt
          clear hs hc hp
          go_wp2
          refine still_tail' 13 (by kernel_rfl) (by kernel_rfl) ?_
          simp only [List.take_succ_cons, List.take_zero, List.drop_succ_cons, List.drop_zero]
          repeat still_step
          refine wpStill_nil ?_
          go_wp2_with fail
          refine hpush.mono ?_
          rintro e1 w2 ⟨rfl, p', hT, hpp, hits⟩
          clear hpush x0 x1 x2 cp
          go_wp2
          go_roundw
          case rel =>
            have hW : (c0 m).wait.take (j + 1) = (c0 m).wait.take j ++ [initEv j s] := by
              have h2 : (c0 m).wait[j]? = some (initEv j s) := by
                show (m.starts.mapIdx initEv)[j]? = _
                rw [List.getElem?_mapIdx, Hs.out]; rfl
              rw [List.take_add_one, h2]; rfl
            refine ⟨j + 1, ps.set s.p.toNat p', by go_num, hlt, hPd.turned Hp.out hT, ?_, ?_, ?_, ?_⟩
            · rw [hW]
              exact hS.push Hp.out (show s.p = ((s.p.toNat : Nat) : Int) by omega) hT.num hT.st hT.sent hT.dn hits
            · intro q hq
              obtain ⟨i, hi⟩ := List.getElem?_of_mem hq
              rcases set_get hi with ⟨_, e2⟩ | ⟨_, e2⟩
              · rw [e2, hpp]; omega
              · have := hpu q (List.mem_of_getElem? e2); omega
            · have hk1 : Below (w.heap.size + 1) wr (wr.alloc (.cells #[.int .i64 s.p, .int .i64 s.t, .int .i64 s.l] 73)).drew := KeptF.below (F := fun _ => False) (((KeptF.refl _ wr).alloc _).drew) hBk (fun i hi => hi.elim)
              exact hbl.trans (hk1.trans (KeptF.below hT.kept (by simp; omega) (fun i hi => ((hPd.each p (List.mem_of_getElem? Hp.out)).lt hi).1)))
            · intro i q hq
              rcases set_get hq with ⟨e1, e2⟩ | ⟨_, e2⟩
              · have h1 := hC _ p Hp.out
                subst e1 e2
                refine ⟨hT.en.trans h1.en, hT.hr.trans h1.hr, hT.ws.trans h1.ws, ?_⟩
                rw [hpp, hits.length_eq, h1.pu]; rfl
              · exact hC i q e2
          case measure => simp [intOf]; omega
        · have hje : j = m.starts.length := by omega
          subst hje
          go_wp2
          go_ret
          refine ⟨w.heap.size + 1, ps, rfl, hP, ?_, fun p hp => by have := hpu p hp; omega, hbw, hC⟩
          have hl : (c0 m).wait.take m.starts.length = (c0 m).wait := List.take_of_length_le (by simp [c0])
          rw [hl] at hS
          have hst : (c0 m).states = List.replicate k 0 := by show List.replicate (np m) 0 = _; rw [Hnp.out]
          have hsq : (c0 m).seqs = List.replicate k 0 := by show List.replicate (np m) 0 = _; rw [Hnp.out]
          have hdn : (c0 m).done = List.replicate k [] := by show List.replicate (np m) [] = _; rw [Hnp.out]
          rw [hst, hsq, hdn]
          exact hS

end Go.Proofs.Ytaieackeflmhgaa

namespace Go.Proofs.Ytaieackeflmhgaa
open Go.RowKit Go.Sort Go.Maps

def itsOf (c : Cs) (p : Nat) : List It := (c.done.getD p []).map Dn.it
/-- the starts, and all emissions of what is done -/
def genAll (m : Mdl) (I : Nat → List It) : List Ev := m.starts.mapIdx initEv ++ (List.range (np m)).flatMap (fun q : Nat => emsP m (q : Int) (I q))
def evsAt (p : Nat) (d : List Dn) (k : List Int) : List Ev := List.zipWith (fun (x : Dn) (c : Int) => (⟨x.it, (p : Int), c⟩ : Ev)) d k
def doneEvs (n : Nat) (c : Cs) : List Ev := (List.range n).flatMap (fun p => evsAt p (c.done.getD p []) (c.causes.getD p []))

theorem flatMap_same {α : Type} {f f' : Nat → List α} : ∀ {n : Nat}, (∀ q, q < n → f' q = f q) → (List.range n).flatMap f' = (List.range n).flatMap f
  | 0, _ => rfl
  | n + 1, h => by
    rw [List.range_succ, List.flatMap_append, List.flatMap_append, flatMap_same (n := n) (fun q hq => h q (by omega))]
    simp [h n (by omega)]
theorem flatMap_turn {α : Type} {f f' : Nat → List α} {p : Nat} {x : List α} (h : f' p = f p ++ x) (ho : ∀ q, q ≠ p → f' q = f q) : ∀ {n : Nat}, p < n → ((List.range n).flatMap f').Perm ((List.range n).flatMap f ++ x)
  | 0, hp => by omega
  | n + 1, hp => by
    rw [List.range_succ, List.flatMap_append, List.flatMap_append]
    simp only [List.flatMap_cons, List.flatMap_nil, List.append_nil]
    by_cases e : p = n
    · subst e
      rw [flatMap_same (fun q hq => ho q (by omega)), h, List.append_assoc]
    · rw [ho n (by omega)]
      refine ((flatMap_turn h ho (n := n) (by omega)).append_right (f n)).trans ?_
      rw [List.append_assoc, List.append_assoc]
      exact List.Perm.append_left _ List.perm_append_comm

theorem evsAt_items {p : Nat} : ∀ {d : List Dn} {k : List Int}, k.length = d.length → (evsAt p d k).map Ev.it = d.map Dn.it
  | [], [], _ => rfl
  | [], c :: k, h => by simp at h
  | x :: d, [], h => by simp at h
  | x :: d, c :: k, h => by
    have := evsAt_items (p := p) (d := d) (k := k) (by simpa using h)
    unfold evsAt at this ⊢
    simp only [List.zipWith_cons_cons, List.map_cons, this]
theorem evsAt_snoc {p : Nat} {d : List Dn} {k : List Int} (h : k.length = d.length) (x : Dn) (c : Int) : evsAt p (d ++ [x]) (k ++ [c]) = evsAt p d k ++ [⟨x.it, (p : Int), c⟩] := by
  unfold evsAt
  rw [List.zipWith_append h.symm]
  rfl
theorem evsAt_get {p : Nat} {d : List Dn} {k : List Int} {y : Ev} (h : y ∈ evsAt p d k) : ∃ (i : Nat) (x : Dn), d[i]? = some x ∧ k[i]? = some y.c ∧ y.it = x.it ∧ y.p = (p : Int) := by
  obtain ⟨i, hi⟩ := List.getElem?_of_mem h
  unfold evsAt at hi
  rw [List.getElem?_zipWith] at hi
  cases hd : d[i]? with
  | none => rw [hd] at hi; simp at hi
  | some x =>
    cases hk : k[i]? with
    | none => rw [hd, hk] at hi; simp at hi
    | some c =>
      rw [hd, hk] at hi
      simp at hi
      subst hi
      exact ⟨i, x, hd, hk, rfl, rfl⟩
theorem evsAt_mem {p : Nat} {d : List Dn} {k : List Int} {i : Nat} {x : Dn} {c : Int} (hd : d[i]? = some x) (hk : k[i]? = some c) : (⟨x.it, (p : Int), c⟩ : Ev) ∈ evsAt p d k := by
  refine List.mem_of_getElem? (i := i) ?_
  unfold evsAt
  rw [List.getElem?_zipWith, hd, hk]

theorem mem_doneEvs {n : Nat} {c : Cs} {y : Ev} : y ∈ doneEvs n c ↔ ∃ p, p < n ∧ y ∈ evsAt p (c.done.getD p []) (c.causes.getD p []) := by
  unfold doneEvs
  rw [List.mem_flatMap]
  constructor
  · rintro ⟨p, hp, h⟩; exact ⟨p, by simpa using hp, h⟩
  · rintro ⟨p, hp, h⟩; exact ⟨p, by simpa using hp, h⟩

structure G (m : Mdl) (c : Cs) : Prop where
  st : ∀ p : Nat, p < np m → c.states[p]? = some (runP m (p : Int) (itsOf c p)).1
  sq : ∀ p : Nat, p < np m → c.seqs[p]? = some (runP m (p : Int) (itsOf c p)).2
  hs : ∀ p : Nat, p < np m → c.done[p]? = some (hist m (p : Int) (itsOf c p))
  lc : ∀ p : Nat, p < np m → (c.causes.getD p []).length = (c.done.getD p []).length
  pm : (doneEvs (np m) c ++ c.wait).Perm (genAll m (itsOf c))
  od : ∀ d ∈ doneEvs (np m) c, ∀ y ∈ c.wait, d.it.lt y.it
  sr : ∀ p : Nat, p < np m → (itsOf c p).Pairwise It.lt

theorem getD_nil {α : Type} (n p : Nat) : (List.replicate n ([] : List α)).getD p [] = [] := by
  rw [List.getD_eq_getElem?_getD, List.getElem?_replicate]
  split <;> rfl

theorem G_c0 (m : Mdl) : G m (c0 m) := by
  have hI : ∀ p, itsOf (c0 m) p = [] := fun p => by
    unfold itsOf
    show ((List.replicate (np m) ([] : List Dn)).getD p []).map Dn.it = []
    rw [getD_nil]; rfl
  have hD : doneEvs (np m) (c0 m) = [] := by
    unfold doneEvs
    rw [List.flatMap_eq_nil_iff]
    intro p _
    show evsAt p ((List.replicate (np m) ([] : List Dn)).getD p []) _ = []
    rw [getD_nil]; rfl
  have hE : (List.range (np m)).flatMap (fun q : Nat => emsP m (q : Int) (itsOf (c0 m) q)) = [] := by
    rw [List.flatMap_eq_nil_iff]
    intro p _
    rw [hI]; rfl
  refine ⟨fun p hp => ?_, fun p hp => ?_, fun p hp => ?_, fun p hp => ?_, ?_, fun d hd => ?_, fun p hp => ?_⟩
  · rw [hI]; show (List.replicate (np m) (0 : Int))[p]? = _; rw [List.getElem?_replicate, if_pos hp]; rfl
  · rw [hI]; show (List.replicate (np m) (0 : Int))[p]? = _; rw [List.getElem?_replicate, if_pos hp]; rfl
  · rw [hI]; show (List.replicate (np m) ([] : List Dn))[p]? = _; rw [List.getElem?_replicate, if_pos hp]; rfl
  · show ((List.replicate (np m) ([] : List Int)).getD p []).length = ((List.replicate (np m) ([] : List Dn)).getD p []).length
    rw [getD_nil, getD_nil]; rfl
  · unfold genAll
    rw [hD, hE, List.nil_append, List.append_nil]
    exact List.Perm.refl _
  · rw [hD] at hd; simp at hd
  · rw [hI]; exact List.Pairwise.nil

theorem doEv_causes (m : Mdl) (c : Cs) (j : Nat) (e : Ev) : (doEv m c j e).causes = c.causes.set e.p.toNat (c.causes.getD e.p.toNat [] ++ [e.c]) := by
  unfold doEv
  split <;> rfl

theorem mem_erase_ne {α : Type} {l : List α} {j : Nat} {y : α} (h : y ∈ l.eraseIdx j) : ∃ i, i ≠ j ∧ l[i]? = some y := by
  obtain ⟨i, hi⟩ := List.getElem?_of_mem h
  rw [List.getElem?_eraseIdx] at hi
  split at hi
  · exact ⟨i, by omega, hi⟩
  · exact ⟨i + 1, by omega, hi⟩

theorem getD_set {α : Type} {l : List (List α)} {p q : Nat} {v : List α} (hp : p < l.length) : (l.set p v).getD q [] = if q = p then v else l.getD q [] := by
  rw [List.getD_eq_getElem?_getD, List.getD_eq_getElem?_getD]
  by_cases e : q = p
  · subst e; rw [List.getElem?_set_self hp, if_pos rfl]; rfl
  · rw [List.getElem?_set_ne (by omega), if_neg e]

theorem G_do {m : Mdl} {c : Cs} (hm : Right m) (hI : Inv m c) (g : G m c) {en : Int} {j : Nat} {e : Ev} (he : c.wait[j]? = some e) (ht : e.it.t < en) (hmin : ∀ y ∈ c.wait, y.it.t < en → ¬ y.it.lt e.it) : G m (doEv m c j e) := by
  have hem := List.mem_of_getElem? he
  obtain ⟨hp0, hp1, _⟩ := hI.ev e hem
  obtain ⟨p, hpe⟩ : ∃ p : Nat, e.p = (p : Int) := ⟨e.p.toNat, by omega⟩
  have hpt : e.p.toNat = p := by omega
  have hp : p < np m := by unfold np; omega
  have hst := g.st p hp
  have hsq := g.sq p hp
  have hdn := g.hs p hp
  have hlc := g.lc p hp
  obtain ⟨hD, hS, hQ, hW⟩ := doEv_out2 (m := m) (c := c) (j := j) (e := e) (by rw [hpt]; exact hst) (by rw [hpt]; exact hsq) (by rw [hpt]; exact hdn)
  have hC := doEv_causes m c j e
  rw [hpt, hpe] at hD hS hQ
  rw [hpt] at hC
  rw [hpe, hist_length] at hW
  have hout : (ruleOut m (p : Int) (runP m (p : Int) (itsOf c p)).1 (runP m (p : Int) (itsOf c p)).2 e.it).1 = outP m (p : Int) (itsOf c p) e.it := rfl
  rw [hout] at hW
  have hpd : p < c.done.length := by rw [hI.ld]; exact hp
  have hpc : p < c.causes.length := by rw [hI.lc]; exact hp
  have hdg : c.done.getD p [] = hist m (p : Int) (itsOf c p) := by rw [List.getD_eq_getElem?_getD, hdn]; rfl
  have hits : itsOf (doEv m c j e) p = itsOf c p ++ [e.it] := by
    have h0 : itsOf (doEv m c j e) p = ((doEv m c j e).done.getD p []).map Dn.it := rfl
    rw [h0, hD, getD_set hpd, if_pos rfl, List.map_append, hist_items]
    rfl
  have hito : ∀ q, q ≠ p → itsOf (doEv m c j e) q = itsOf c q := fun q hq => by
    have h0 : itsOf (doEv m c j e) q = ((doEv m c j e).done.getD q []).map Dn.it := rfl
    rw [h0, hD, getD_set hpd, if_neg hq]
    rfl
  have hrun : runP m (p : Int) (itsOf c p ++ [e.it]) = (ruleOut m (p : Int) (runP m (p : Int) (itsOf c p)).1 (runP m (p : Int) (itsOf c p)).2 e.it).2 := runP_snoc m p _ _
  have hdone : (doneEvs (np m) (doEv m c j e)).Perm (doneEvs (np m) c ++ [e]) := by
    unfold doneEvs
    refine flatMap_turn (p := p) ?_ (fun q hq => ?_) hp
    · rw [hD, hC, getD_set hpd, getD_set hpc, if_pos rfl, if_pos rfl, ← hdg, evsAt_snoc hlc]
      show _ ++ [(⟨e.it, (p : Int), e.c⟩ : Ev)] = _
      rw [← hpe]
    · rw [hD, hC, getD_set hpd, getD_set hpc, if_neg hq, if_neg hq]
  have hgen : (genAll m (itsOf (doEv m c j e))).Perm (genAll m (itsOf c) ++ (outP m (p : Int) (itsOf c p) e.it).map (toEv m ((itsOf c p).length : Int))) := by
    unfold genAll
    rw [List.append_assoc]
    refine List.Perm.append_left _ (flatMap_turn (p := p) ?_ (fun q hq => ?_) hp)
    · rw [hits]; exact emsP_snoc m p _ _
    · rw [hito q hq]
  have hdlt : ∀ d ∈ doneEvs (np m) c, d.it.lt e.it := fun d hd => g.od d hd e hem
  have hwlt : ∀ y ∈ (doEv m c j e).wait, e.it.lt y.it := by
    intro y hy
    rcases doEv_wait hm y hy with h1 | h1
    · rw [hW] at hy
      rcases List.mem_append.1 hy with h2 | h2
      · obtain ⟨i, hij, hi⟩ := mem_erase_ne h2
        by_cases hyt : y.it.t < en
        · have h3 := hmin y h1 hyt
          refine Classical.byContradiction fun h4 => ?_
          obtain ⟨k1, k2⟩ := It.lt_total h3 h4
          exact hij (nodup_idx hI.keys hi he (by simp [evKey, k1, k2]))
        · unfold It.lt; omega
      · obtain ⟨em, hem', rfl⟩ := List.mem_map.1 h2
        obtain ⟨z, z1, _, _, _, z5, _⟩ := ruleOut_link hm hem'
        have := hm.link z1
        show e.it.lt em.it
        unfold It.lt; omega
    · unfold It.lt; omega
  refine ⟨fun q hq => ?_, fun q hq => ?_, fun q hq => ?_, fun q hq => ?_, ?_, fun d hd y hy => ?_, fun q hq => ?_⟩
  · rw [hS]
    by_cases e1 : q = p
    · subst e1
      rw [List.getElem?_set_self (get_lt hst), hits, hrun]
    · rw [List.getElem?_set_ne (by omega), hito q e1]; exact g.st q hq
  · rw [hQ]
    by_cases e1 : q = p
    · subst e1
      rw [List.getElem?_set_self (get_lt hsq), hits, hrun]
    · rw [List.getElem?_set_ne (by omega), hito q e1]; exact g.sq q hq
  · rw [hD]
    by_cases e1 : q = p
    · subst e1
      rw [List.getElem?_set_self hpd, hits, hist_snoc]
      rfl
    · rw [List.getElem?_set_ne (by omega), hito q e1]; exact g.hs q hq
  · rw [hD, hC, getD_set hpd, getD_set hpc]
    by_cases e1 : q = p
    · subst e1
      rw [if_pos rfl, if_pos rfl, List.length_append, List.length_append, hlc, hdg]
      rfl
    · rw [if_neg e1, if_neg e1]; exact g.lc q hq
  · rw [hW]
    refine (hdone.append_right _).trans ?_
    refine List.Perm.trans ?_ hgen.symm
    rw [List.append_assoc, ← List.append_assoc [e], ← List.append_assoc]
    refine List.Perm.append_right _ ?_
    refine List.Perm.trans ?_ g.pm
    refine List.Perm.append_left _ ?_
    exact (perm_eraseIdx c.wait j e he).symm
  · have hd' := hdone.mem_iff.1 hd
    have h1 := hwlt y hy
    rcases List.mem_append.1 hd' with h2 | h2
    · exact It.lt_trans (hdlt d h2) h1
    · simp at h2; subst h2; exact h1
  · by_cases e1 : q = p
    · subst e1
      rw [hits, List.pairwise_append]
      refine ⟨g.sr q hq, List.pairwise_singleton _ _, fun a ha b hb => ?_⟩
      simp at hb
      subst hb
      have h2 : a ∈ (evsAt q (c.done.getD q []) (c.causes.getD q [])).map Ev.it := by rw [evsAt_items hlc]; exact ha
      obtain ⟨d, hd, rfl⟩ := List.mem_map.1 h2
      exact hdlt d (mem_doneEvs.2 ⟨q, hq, hd⟩)
    · rw [hito q e1]; exact g.sr q hq

theorem G_atK {m : Mdl} (hm : Right m) {en : Int} (hen : en ≤ 200) : ∀ k, G m (atK m en k)
  | 0 => G_c0 m
  | k + 1 => by
    show G m (stepF m en (atK m en k))
    have ih := G_atK hm hen k
    cases h : nx en (atK m en k).wait with
    | none => rw [stepF_none h]; exact ih
    | some j =>
      obtain ⟨e, he, ht, hmin⟩ := nx_is h
      rw [stepF_some h he]
      exact G_do hm (atK_inv hm hen k) ih he ht hmin

/-- F: what is done at each process, in all; C: of each, which event of its sender emitted it -/
structure Full (m : Mdl) (en : Int) (F : Nat → List It) (C : Nat → List Int) : Prop where
  srt : ∀ p : Nat, p < np m → (F p).Pairwise It.lt
  low : ∀ p : Nat, p < np m → ∀ x ∈ F p, x.t < en
  gen : ∀ y ∈ genAll m F, y.it.t < en → ∃ (p i : Nat), p < np m ∧ y.p = (p : Int) ∧ (F p)[i]? = some y.it ∧ (C p)[i]? = some y.c
  com : ∀ (p i : Nat) (x : It), p < np m → (F p)[i]? = some x → ∃ y ∈ genAll m F, y.p = (p : Int) ∧ y.it = x ∧ (C p)[i]? = some y.c
  len : ∀ p : Nat, p < np m → (C p).length = (F p).length

theorem full_atK {m : Mdl} (hm : Right m) {en : Int} (hen : en ≤ 200) {k : Nat} (h : nx en (atK m en k).wait = none) : Full m en (itsOf (atK m en k)) (fun p => (atK m en k).causes.getD p []) := by
  have g := G_atK hm hen k
  have hw := nx_none_all h
  refine ⟨g.sr, fun p hp x hx => ?_, fun y hy ht => ?_, fun p i x hp hx => ?_, fun p hp => ?_⟩
  · obtain ⟨d, hd, rfl⟩ := List.mem_map.1 hx
    have h1 := g.hs p hp
    have h2 : (atK m en k).done.getD p [] = hist m (p : Int) (itsOf (atK m en k) p) := by rw [List.getD_eq_getElem?_getD, h1]; rfl
    rw [h2] at hd
    exact done_below hm hen k p _ h1 d hd
  · rcases List.mem_append.1 (g.pm.mem_iff.2 hy) with h1 | h1
    · obtain ⟨p, hp, h2⟩ := mem_doneEvs.1 h1
      obtain ⟨i, x, h3, h4, h5, h6⟩ := evsAt_get h2
      refine ⟨p, i, hp, h6, ?_, h4⟩
      unfold itsOf
      rw [List.getElem?_map, h3, h5]; rfl
    · have := hw y h1; omega
  · unfold itsOf at hx
    rw [List.getElem?_map] at hx
    obtain ⟨d, hd, rfl⟩ := Option.map_eq_some_iff.1 hx
    obtain ⟨c, hc⟩ := get_of_lt (d := (atK m en k).causes.getD p []) (k := i) (by rw [g.lc p hp]; exact get_lt hd)
    refine ⟨⟨d.it, (p : Int), c⟩, g.pm.mem_iff.1 (List.mem_append_left _ (mem_doneEvs.2 ⟨p, hp, evsAt_mem hd hc⟩)), rfl, rfl, hc⟩
  · rw [g.lc p hp]; simp [itsOf]

end Go.Proofs.Ytaieackeflmhgaa

namespace Go.Proofs.Ytaieackeflmhgaa
open Go.RowKit Go.Sort Go.Maps

/-- the first N p of what each process does -/
def cutI (F : Nat → List It) (N : Nat → Nat) (p : Nat) : List It := (F p).take (N p)

theorem mem_genAll {m : Mdl} {I : Nat → List It} {y : Ev} : y ∈ genAll m I ↔ (∃ (i : Nat) (s : MStart), m.starts[i]? = some s ∧ y = initEv i s) ∨ ∃ q : Nat, q < np m ∧ y ∈ emsP m (q : Int) (I q) := by
  unfold genAll
  rw [List.mem_append, List.mem_flatMap]
  constructor
  · rintro (h | ⟨q, hq, h⟩)
    · obtain ⟨i, hi⟩ := List.getElem?_of_mem h
      rw [List.getElem?_mapIdx] at hi
      obtain ⟨s, hs, rfl⟩ := Option.map_eq_some_iff.1 hi
      exact .inl ⟨i, s, hs, rfl⟩
    · exact .inr ⟨q, by simpa using hq, h⟩
  · rintro (⟨i, s, hs, rfl⟩ | ⟨q, hq, h⟩)
    · left
      refine List.mem_of_getElem? (i := i) ?_
      rw [List.getElem?_mapIdx, hs]; rfl
    · exact .inr ⟨q, by simpa using hq, h⟩

theorem gen_from {m : Mdl} {I : Nat → List It} {y : Ev} (h : y ∈ genAll m I) : y.it.f = -1 ∨ ∃ q : Nat, q < np m ∧ y.it.f = (q : Int) ∧ y ∈ emsP m (q : Int) (I q) := by
  rcases mem_genAll.1 h with ⟨i, s, _, rfl⟩ | ⟨q, hq, h⟩
  · exact .inl rfl
  · obtain ⟨j, hj⟩ := List.getElem?_of_mem h
    exact .inr ⟨q, hq, (emsP_key hj).1, h⟩

/-- From and Seq tell an event from all others -/
theorem gen_uniq {m : Mdl} {I : Nat → List It} {y y' : Ev} (h : y ∈ genAll m I) (h' : y' ∈ genAll m I) (hf : y.it.f = y'.it.f) (hs : y.it.s = y'.it.s) : y = y' := by
  rcases mem_genAll.1 h with ⟨i, s, h1, rfl⟩ | ⟨q, hq, h1⟩
  · rcases mem_genAll.1 h' with ⟨i', s', h2, rfl⟩ | ⟨q', hq', h2⟩
    · have hs : (i : Int) = (i' : Int) := hs
      have e : i = i' := by omega
      subst e
      rw [h1] at h2; cases h2; rfl
    · obtain ⟨j, hj⟩ := List.getElem?_of_mem h2
      have := (emsP_key hj).1
      have hf : (-1 : Int) = y'.it.f := hf
      omega
  · obtain ⟨j, hj⟩ := List.getElem?_of_mem h1
    have k1 := emsP_key hj
    rcases mem_genAll.1 h' with ⟨i', s', h2, rfl⟩ | ⟨q', hq', h2⟩
    · have hf : y.it.f = (-1 : Int) := hf
      omega
    · obtain ⟨j', hj'⟩ := List.getElem?_of_mem h2
      have k2 := emsP_key hj'
      have e1 : q = q' := by omega
      have e2 : j = j' := by omega
      subst e1 e2
      rw [hj] at hj'; cases hj'; rfl

theorem take_get {α : Type} {l : List α} {n i : Nat} {x : α} : (l.take n)[i]? = some x ↔ i < n ∧ l[i]? = some x := by
  constructor
  · intro h
    have := get_lt h
    rw [List.length_take] at this
    rw [List.getElem?_take_of_lt (by omega)] at h
    exact ⟨by omega, h⟩
  · rintro ⟨h1, h2⟩
    rw [List.getElem?_take_of_lt h1]; exact h2

theorem cut_gen {m : Mdl} {F : Nat → List It} {N : Nat → Nat} {y : Ev} (h : y ∈ genAll m (cutI F N)) : y ∈ genAll m F := by
  rcases mem_genAll.1 h with h | ⟨q, hq, h⟩
  · exact mem_genAll.2 (.inl h)
  · obtain ⟨z, hz⟩ := emsP_take m (q : Int) (F q) (N q)
    exact mem_genAll.2 (.inr ⟨q, hq, by rw [hz]; exact List.mem_append_left _ h⟩)

/-- what comes of all comes of the part, or of an event that is not in it -/
theorem gen_cut {m : Mdl} {F : Nat → List It} (N : Nat → Nat) {y : Ev} (h : y ∈ genAll m F) : y ∈ genAll m (cutI F N) ∨ ∃ (q i : Nat) (x : It) (e : Em), q < np m ∧ N q ≤ i ∧ (F q)[i]? = some x ∧ y = toEv m (i : Int) e ∧ e ∈ outP m (q : Int) ((F q).take i) x := by
  rcases mem_genAll.1 h with h | ⟨q, hq, h⟩
  · exact .inl (mem_genAll.2 (.inl h))
  · obtain ⟨i, x, e, h1, h2, h3⟩ := emsP_mem h
    by_cases hi : i < N q
    · left
      refine mem_genAll.2 (.inr ⟨q, hq, ?_⟩)
      rw [h2]
      refine mem_emsP (x := x) ?_ ?_
      · exact take_get.2 ⟨hi, h1⟩
      · unfold cutI
        rw [List.take_take, Nat.min_eq_left (by omega)]
        exact h3
    · exact .inr ⟨q, i, x, e, hq, by omega, h1, h2, h3⟩

theorem srt_idx {l : List It} (h : l.Pairwise It.lt) {i j : Nat} {x y : It} (hi : l[i]? = some x) (hj : l[j]? = some y) (hij : i < j) : x.lt y := by
  rw [List.pairwise_iff_getElem] at h
  have hi' := get_lt hi
  have hj' := get_lt hj
  rw [List.getElem?_eq_getElem hi', Option.some.injEq] at hi
  rw [List.getElem?_eq_getElem hj', Option.some.injEq] at hj
  rw [← hi, ← hj]
  exact h i j hi' hj' hij
theorem srt_same {l : List It} (h : l.Pairwise It.lt) {i j : Nat} {x : It} (hi : l[i]? = some x) (hj : l[j]? = some x) : i = j := by
  rcases Nat.lt_trichotomy i j with k | k | k
  · exact absurd (srt_idx h hi hj k) (It.lt_irrefl x)
  · exact k
  · exact absurd (srt_idx h hj hi k) (It.lt_irrefl x)
theorem not_in_cut {F : Nat → List It} {N : Nat → Nat} {p i : Nat} {x : It} (h : (F p).Pairwise It.lt) (hi : (F p)[i]? = some x) (hn : N p ≤ i) : x ∉ cutI F N p := by
  intro hx
  obtain ⟨j, hj⟩ := List.getElem?_of_mem hx
  obtain ⟨h1, h2⟩ := take_get.1 hj
  have := srt_same h hi h2
  omega

/-- THE NEXT EVENT of a process: the least of all that comes to it and is not done, if that is below the end -/
theorem next_is {m : Mdl} {en : Int} {F : Nat → List It} {C : Nat → List Int} (hF : Full m en F C) {N : Nat → Nat} {p : Nat} (hp : p < np m) {e : Ev} (he : e ∈ genAll m F) (hep : e.p = (p : Int)) (het : e.it.t < en) (hnot : e.it ∉ cutI F N p)
    (hmin : ∀ y ∈ genAll m F, y.p = (p : Int) → y.it ∉ cutI F N p → y.it.t < en → ¬ y.it.lt e.it) : (F p)[N p]? = some e.it ∧ (C p)[N p]? = some e.c := by
  obtain ⟨p', i, hp', h1, h2, h3⟩ := hF.gen e he het
  have e1 : p' = p := by omega
  subst e1
  have hi : N p' ≤ i := by
    rcases Nat.lt_or_ge i (N p') with h | h
    · exact absurd (List.mem_of_getElem? (take_get.2 ⟨h, h2⟩)) hnot
    · exact h
  have key : i = N p' := by
    rcases Nat.lt_or_ge (N p') i with h | h
    · obtain ⟨x, hx⟩ := get_of_lt (d := F p') (k := N p') (by have := get_lt h2; omega)
      obtain ⟨y, hy, hyp, hyx, _⟩ := hF.com p' (N p') x hp hx
      have h4 := srt_idx (hF.srt p' hp) hx h2 h
      have h5 := hmin y hy hyp (by rw [hyx]; exact not_in_cut (hF.srt p' hp) hx (Nat.le_refl _)) (by rw [hyx]; exact hF.low p' hp x (List.mem_of_getElem? hx))
      rw [hyx] at h5
      exact absurd h4 h5
    · omega
  subst key
  exact ⟨h2, h3⟩

/-- nothing that is not yet emitted comes along the link ahead of c -/
def Prom (F : Nat → List It) (N : Nat → Nat) (z : MLink) (c : Int) : Prop := ∀ (i : Nat) (x : It), N z.f.toNat ≤ i → (F z.f.toNat)[i]? = some x → c ≤ x.t + z.a

theorem Prom.less {F : Nat → List It} {N : Nat → Nat} {z : MLink} {c c' : Int} (h : Prom F N z c) (hc : c' ≤ c) : Prom F N z c' := fun i x hi hx => Int.le_trans hc (h i x hi hx)
theorem Prom.more {F : Nat → List It} {N N' : Nat → Nat} {z : MLink} {c : Int} (h : Prom F N z c) (hN : ∀ q, N q ≤ N' q) : Prom F N' z c := fun i x hi hx => h i x (Nat.le_trans (hN _) hi) hx

/-- a process is sure: what comes to it is there, or comes at T or later -/
theorem sure_of {m : Mdl} (hm : Right m) {F : Nat → List It} {N : Nat → Nat} {p : Nat} {T : Int} (hT : ∀ z ∈ m.links, z.t = (p : Int) → Prom F N z T) {y : Ev} (h : y ∈ genAll m F) (hy : y.p = (p : Int)) : y ∈ genAll m (cutI F N) ∨ T ≤ y.it.t := by
  rcases gen_cut N h with h1 | ⟨q, i, x, e, hq, hi, hx, rfl, he⟩
  · exact .inl h1
  · right
    obtain ⟨z, z1, _, z3, z4, z5, _⟩ := ruleOut_link hm he
    have hy : linkTo m e.k = (p : Int) := hy
    have h1 := hT z (List.mem_of_getElem? z1) (by rw [← z4]; exact hy) i x (by rw [z3]; simpa using hi) (by rw [z3]; simpa using hx)
    show T ≤ e.it.t
    omega

/-- what a process can promise: what it does later is not earlier than the least that waits, nor than what it is sure of -/
theorem later_of {m : Mdl} (hm : Right m) {en : Int} {F : Nat → List It} {C : Nat → List Int} (hF : Full m en F C) {N : Nat → Nat} {q : Nat} (hq : q < np m) {L T : Int} (hT : ∀ z ∈ m.links, z.t = (q : Int) → Prom F N z T)
    (hL : ∀ y ∈ genAll m (cutI F N), y.p = (q : Int) → y.it ∉ cutI F N q → y.it.t < en → L ≤ y.it.t) : ∀ (i : Nat) (x : It), N q ≤ i → (F q)[i]? = some x → L ≤ x.t ∨ T ≤ x.t := by
  intro i x hi hx
  obtain ⟨y, hy, hyp, hyx, _⟩ := hF.com q i x hq hx
  rcases sure_of hm hT hy hyp with h1 | h1
  · left
    rw [← hyx]
    exact hL y h1 hyp (by rw [hyx]; exact not_in_cut (hF.srt q hq) hx hi) (by rw [hyx]; exact hF.low q hq x (List.mem_of_getElem? hx))
  · right; rw [← hyx]; exact h1
theorem prom_of {F : Nat → List It} {N : Nat → Nat} {z : MLink} {c : Int} (h : ∀ (i : Nat) (x : It), N z.f.toNat ≤ i → (F z.f.toNat)[i]? = some x → c ≤ x.t) : Prom F N z (c + z.a) := fun i x hi hx => by
  have := h i x hi hx; omega

/-- P8, the first half: who emitted it has done so -/
theorem cause_done {m : Mdl} {en : Int} {F : Nat → List It} {C : Nat → List Int} (hF : Full m en F C) {N : Nat → Nat} {p i q : Nat} (hp : p < np m) {y : Ev} (hy : y ∈ genAll m (cutI F N)) (hyp : y.p = (p : Int)) (hi : (F p)[i]? = some y.it) (hq : y.it.f = (q : Int)) :
    ∃ j : Nat, (C p)[i]? = some (j : Int) ∧ j < N q := by
  rcases gen_from hy with h | ⟨q', hq', h1, h2⟩
  · omega
  · have e1 : q' = q := by omega
    subst e1
    obtain ⟨j, x, e, h3, h4, _⟩ := emsP_mem h2
    have h5 := (take_get.1 h3).1
    obtain ⟨p', i', h6, h7, h8, h9⟩ := hF.gen y (cut_gen hy) (hF.low p hp y.it (List.mem_of_getElem? hi))
    have e2 : p' = p := by omega
    subst e2
    have e3 := srt_same (hF.srt p' hp) hi h8
    subst e3
    refine ⟨j, ?_, h5⟩
    rw [h9, h4]; rfl

/-- an event more is done at p: what comes of it -/
theorem gen_step {m : Mdl} {I I' : Nat → List It} {p : Nat} (hp : p < np m) {x : It} (h : I' p = I p ++ [x]) (ho : ∀ q, q ≠ p → I' q = I q) : (genAll m I').Perm (genAll m I ++ (outP m (p : Int) (I p) x).map (toEv m ((I p).length : Int))) := by
  unfold genAll
  rw [List.append_assoc]
  refine List.Perm.append_left _ (flatMap_turn (p := p) ?_ (fun q hq => ?_) hp)
  · rw [h]; exact emsP_snoc m p _ _
  · rw [ho q hq]
theorem cut_step {F : Nat → List It} {N : Nat → Nat} {p : Nat} {x : It} (hx : (F p)[N p]? = some x) : cutI F (fun q => if q = p then N p + 1 else N q) p = cutI F N p ++ [x] := by
  unfold cutI
  simp only [if_true]
  rw [List.take_add_one, hx]; rfl
theorem cut_other {F : Nat → List It} {N : Nat → Nat} {p q : Nat} (n : Nat) (h : q ≠ p) : cutI F (fun r => if r = p then n else N r) q = cutI F N q := by
  unfold cutI
  simp only [if_neg h]

end Go.Proofs.Ytaieackeflmhgaa

namespace Go.Proofs.Ytaieackeflmhgaa
open Go.RowKit Go.Sort Go.Maps

structure NP where
  q : List It
  hr : Int → Option Int
  ws : List Wy
  st : Int
  sent : Int
  dn : List Dn
structure NS where
  ps : List NP
  ls : List (List Pcl)

/-! ### in order -/
theorem It.lt_asymm {x y : It} (h1 : x.lt y) (h2 : y.lt x) : False := by unfold It.lt at *; omega
def insI (x : It) : List It → List It
  | [] => [x]
  | y :: l => if x.aheadB y then x :: y :: l else y :: insI x l
def srtI : List It → List It
  | [] => []
  | x :: l => insI x (srtI l)
theorem insI_perm (x : It) : ∀ l : List It, (insI x l).Perm (x :: l)
  | [] => List.Perm.refl _
  | y :: l => by
    unfold insI
    split
    · exact List.Perm.refl _
    · exact ((insI_perm x l).cons y).trans (List.Perm.swap x y l)
theorem srtI_perm : ∀ l : List It, (srtI l).Perm l
  | [] => List.Perm.refl _
  | x :: l => (insI_perm x (srtI l)).trans ((srtI_perm l).cons x)
/-- no two alike -/
def Uq (l : List It) : Prop := l.Pairwise (fun x y => x.lt y ∨ y.lt x)
theorem Uq.perm {l l' : List It} (h : Uq l) (p : l.Perm l') : Uq l' := (p.pairwise_iff (fun {_ _} h => h.symm)).1 h
theorem Uq.sub {l l' : List It} (h : Uq l) (p : l'.Sublist l) : Uq l' := List.Pairwise.sublist p h
theorem insI_srt {x : It} : ∀ {l : List It}, l.Pairwise It.lt → (∀ y ∈ l, x.lt y ∨ y.lt x) → (insI x l).Pairwise It.lt
  | [], _, _ => by simp [insI]
  | y :: l, h, hx => by
    rw [List.pairwise_cons] at h
    unfold insI
    split
    · rename_i hb
      have hb := (It.aheadB_iff x y).1 hb
      refine List.pairwise_cons.2 ⟨fun z hz => ?_, List.pairwise_cons.2 h⟩
      rcases List.mem_cons.1 hz with rfl | hz
      · exact hb
      · exact It.lt_trans hb (h.1 z hz)
    · rename_i hb
      have hyx : y.lt x := (hx y (by simp)).elim (fun e => absurd ((It.aheadB_iff x y).2 e) hb) id
      refine List.pairwise_cons.2 ⟨fun z hz => ?_, insI_srt h.2 (fun z hz => hx z (by simp [hz]))⟩
      rcases List.mem_cons.1 ((insI_perm x l).mem_iff.1 hz) with rfl | hz
      · exact hyx
      · exact h.1 z hz
theorem srtI_srt : ∀ {l : List It}, Uq l → (srtI l).Pairwise It.lt
  | [], _ => List.Pairwise.nil
  | x :: l, h => by
    have h' := List.pairwise_cons.1 h
    exact insI_srt (srtI_srt h'.2) (fun y hy => h'.1 y ((srtI_perm l).mem_iff.1 hy))
theorem srt_unique : ∀ {a b : List It}, a.Pairwise It.lt → b.Pairwise It.lt → a.Perm b → a = b
  | [], b, _, _, p => (List.Perm.eq_nil p.symm).symm
  | x :: a, b, ha, hb, p => by
    cases b with
    | nil => exact absurd p.eq_nil (by simp)
    | cons y b =>
      have ha' := List.pairwise_cons.1 ha
      have hb' := List.pairwise_cons.1 hb
      have hxy : x = y := by
        rcases List.mem_cons.1 (p.mem_iff.1 (List.mem_cons_self (a := x) (l := a))) with h | h
        · exact h
        · rcases List.mem_cons.1 (p.symm.mem_iff.1 (List.mem_cons_self (a := y) (l := b))) with h2 | h2
          · exact h2.symm
          · exact (It.lt_asymm (hb'.1 x h) (ha'.1 y h2)).elim
      subst hxy
      rw [srt_unique ha'.2 hb'.2 p.cons_inv]

/-! ### what is under way -/
def takeIn (a : NP) (x : Pcl) : NP :=
  if x.kd = 0 then { a with q := x.it :: a.q }
  else if x.kd = 1 then { a with hr := fun j => if j = x.k then some x.it.t else a.hr j }
  else if x.kd = 2 then { a with hr := fun j => if j = x.k then none else a.hr j }
  else a
def leads (m : Mdl) (p i : Nat) : Bool := match m.links[i]? with
  | some z => decide (z.t = (p : Int))
  | none => false
def boxI (m : Mdl) (ls : List (List Pcl)) (p i : Nat) : List Pcl := if leads m p i then ls.getD i [] else []
def inbox (m : Mdl) (ls : List (List Pcl)) (p n : Nat) : List Pcl := (List.range n).flatMap (boxI m ls p)
def drain (m : Mdl) (ls : List (List Pcl)) (p n : Nat) : List (List Pcl) := ls.mapIdx (fun i l => if decide (i < n) && leads m p i then [] else l)
def send1 (ls : List (List Pcl)) (x : Pcl) : List (List Pcl) := ls.set x.k.toNat (ls.getD x.k.toNat [] ++ [x])
def send (ls : List (List Pcl)) (xs : List Pcl) : List (List Pcl) := xs.foldl send1 ls
def msgs (l : List Pcl) : List It := (l.filter (fun x => decide (x.kd = 0))).map Pcl.it
def transit (m : Mdl) (ls : List (List Pcl)) (p : Nat) : List It := msgs (inbox m ls p m.links.length)

theorem send_append (ls : List (List Pcl)) (a b : List Pcl) : send ls (a ++ b) = send (send ls a) b := List.foldl_append
theorem send_cons (ls : List (List Pcl)) (x : Pcl) (b : List Pcl) : send ls (x :: b) = send (send1 ls x) b := rfl
theorem send1_length (ls : List (List Pcl)) (x : Pcl) : (send1 ls x).length = ls.length := by simp [send1]
theorem send_length : ∀ (xs : List Pcl) (ls : List (List Pcl)), (send ls xs).length = ls.length
  | [], ls => rfl
  | x :: xs, ls => by rw [send_cons, send_length xs, send1_length]
theorem msgs_append (a b : List Pcl) : msgs (a ++ b) = msgs a ++ msgs b := by simp [msgs, List.filter_append]
theorem msgs_perm {a b : List Pcl} (h : a.Perm b) : (msgs a).Perm (msgs b) := (h.filter _).map _
theorem mem_msgs {l : List Pcl} {y : It} : y ∈ msgs l ↔ ∃ x ∈ l, x.kd = 0 ∧ x.it = y := by
  unfold msgs
  simp only [List.mem_map, List.mem_filter, decide_eq_true_eq]
  constructor
  · rintro ⟨x, ⟨h1, h2⟩, h3⟩; exact ⟨x, h1, h2, h3⟩
  · rintro ⟨x, h1, h2, h3⟩; exact ⟨x, ⟨h1, h2⟩, h3⟩

theorem getD_set_self {α : Type} {l : List α} {i : Nat} {v d : α} (h : i < l.length) : (l.set i v).getD i d = v := by
  rw [List.getD_eq_getElem?_getD, List.getElem?_set_self h]; rfl
theorem getD_set_ne {α : Type} {l : List α} {i j : Nat} {v d : α} (h : j ≠ i) : (l.set i v).getD j d = l.getD j d := by
  rw [List.getD_eq_getElem?_getD, List.getD_eq_getElem?_getD, List.getElem?_set_ne (by omega)]
theorem getD_some {α : Type} {l : List α} {i : Nat} {v d : α} (h : l[i]? = some v) : l.getD i d = v := by
  rw [List.getD_eq_getElem?_getD, h]; rfl

theorem send1_get {ls : List (List Pcl)} {x : Pcl} (hx : x.k.toNat < ls.length) (j : Nat) : (send1 ls x).getD j [] = if j = x.k.toNat then ls.getD j [] ++ [x] else ls.getD j [] := by
  unfold send1
  by_cases h : j = x.k.toNat
  · subst h; rw [if_pos rfl, getD_set_self hx]
  · rw [if_neg h, getD_set_ne h]
theorem send_get : ∀ {xs : List Pcl} {ls : List (List Pcl)}, (∀ x ∈ xs, x.k.toNat < ls.length) → ∀ j : Nat, (send ls xs).getD j [] = ls.getD j [] ++ xs.filter (fun x => decide (x.k.toNat = j))
  | [], ls, _, j => by simp [send]
  | x :: xs, ls, h, j => by
    rw [send_cons, send_get (fun y hy => by rw [send1_length]; exact h y (by simp [hy])), send1_get (h x (by simp))]
    by_cases e : j = x.k.toNat
    · subst e
      rw [if_pos rfl, List.filter_cons_of_pos (by simp), List.append_assoc]; rfl
    · rw [if_neg e, List.filter_cons_of_neg (by simp; omega)]

theorem inbox_send1 {m : Mdl} {ls : List (List Pcl)} {x : Pcl} (hx : x.k.toNat < ls.length) {p n : Nat} (hn : x.k.toNat < n) : (inbox m (send1 ls x) p n).Perm (inbox m ls p n ++ (if leads m p x.k.toNat then [x] else [])) := by
  unfold inbox
  refine flatMap_turn (p := x.k.toNat) ?_ (fun q hq => ?_) hn
  · unfold boxI
    rw [send1_get hx]
    split <;> simp
  · unfold boxI
    rw [send1_get hx, if_neg hq]
theorem inbox_send {m : Mdl} {p n : Nat} : ∀ {xs : List Pcl} {ls : List (List Pcl)}, (∀ x ∈ xs, x.k.toNat < ls.length ∧ x.k.toNat < n) → (inbox m (send ls xs) p n).Perm (inbox m ls p n ++ xs.filter (fun x => leads m p x.k.toNat))
  | [], ls, _ => by simp [send]
  | x :: xs, ls, h => by
    rw [send_cons]
    refine (inbox_send (fun y hy => by rw [send1_length]; exact h y (by simp [hy]))).trans ?_
    refine ((inbox_send1 (h x (by simp)).1 (h x (by simp)).2).append_right _).trans ?_
    rw [List.append_assoc]
    refine List.Perm.append_left _ ?_
    by_cases e : leads m p x.k.toNat
    · rw [if_pos e, List.filter_cons_of_pos (by exact e)]; exact List.Perm.refl _
    · rw [if_neg e, List.filter_cons_of_neg (by exact e)]; exact List.Perm.refl _

theorem drain_length (m : Mdl) (ls : List (List Pcl)) (p n : Nat) : (drain m ls p n).length = ls.length := by simp [drain]
theorem drain_get (m : Mdl) (ls : List (List Pcl)) (p n j : Nat) : (drain m ls p n).getD j [] = if decide (j < n) && leads m p j then [] else ls.getD j [] := by
  unfold drain
  rw [List.getD_eq_getElem?_getD, List.getElem?_mapIdx, List.getD_eq_getElem?_getD]
  cases ls[j]? with
  | none => simp
  | some l => simp
theorem inbox_drain (m : Mdl) (ls : List (List Pcl)) (p q n : Nat) : inbox m (drain m ls p n) q n = if q = p then [] else inbox m ls q n := by
  by_cases e : q = p
  · subst e
    rw [if_pos rfl]
    unfold inbox
    rw [List.flatMap_eq_nil_iff]
    intro i hi
    unfold boxI
    rw [drain_get]
    have : i < n := by simpa using hi
    by_cases h : leads m q i <;> simp [h, this]
  · rw [if_neg e]
    unfold inbox
    refine flatMap_same (fun i hi => ?_)
    unfold boxI
    by_cases h : leads m q i
    · rw [if_pos h, if_pos h, drain_get]
      have : leads m p i = false := by
        unfold leads at h ⊢
        cases hz : m.links[i]? with
        | none => rfl
        | some z =>
          rw [hz] at h
          simp only [decide_eq_true_eq] at h
          simp only [decide_eq_false_iff_not]
          omega
      simp [this]
    · rw [if_neg h, if_neg h]

/-! ### a process goes on -/
def doP (m : Mdl) (num en : Int) (a : NP) (x : It) : NP × List Pcl :=
  ({ a with st := (ruleOut m num a.st a.sent x).2.1, sent := (ruleOut m num a.st a.sent x).2.2, dn := a.dn ++ [⟨x, (ruleOut m num a.st a.sent x).2.1⟩] },
    ((ruleOut m num a.st a.sent x).1.filter (fun e => decide (e.it.t < en))).map msg)
def doAll (m : Mdl) (num en : Int) : List It → NP × List Pcl → NP × List Pcl
  | [], s => s
  | x :: l, s => doAll m num en l ((doP m num en s.1 x).1, s.2 ++ (doP m num en s.1 x).2)
def toDo (en : Int) (b : NP) : List It := srtI (b.q.filter (fun x => decide (x.t < hz en b.hr)))
def left_ (en : Int) (b : NP) : List It := b.q.filter (fun x => decide (¬ x.t < hz en b.hr))
def advP (m : Mdl) (num en : Int) (b : NP) : NP × List Pcl :=
  let d := doAll m num en (toDo en b) ({ b with q := left_ en b }, [])
  ({ d.1 with ws := b.ws.map (wyN en (hz en b.hr)) }, d.2 ++ wyO en (hz en b.hr) b.ws)
def taken (m : Mdl) (ls : List (List Pcl)) (p n : Nat) (a : NP) : NP := (inbox m ls p n).foldl takeIn a
def goOn (m : Mdl) (en : Int) (s : NS) (p : Nat) : NS := match s.ps[p]? with
  | none => s
  | some a =>
    let d := advP m (p : Int) en (taken m s.ls p m.links.length a)
    ⟨s.ps.set p d.1, send (drain m s.ls p m.links.length) d.2⟩
def goOnB (m : Mdl) (en : Int) (s : NS) (p : Nat) : Bool := match s.ps[p]? with
  | none => false
  | some a =>
    let b := taken m s.ls p m.links.length a
    !(inbox m s.ls p m.links.length).isEmpty || !(advP m (p : Int) en b).2.isEmpty || !(toDo en b).isEmpty

theorem doAll_append (m : Mdl) (num en : Int) : ∀ (l l' : List It) (s : NP × List Pcl), doAll m num en (l ++ l') s = doAll m num en l' (doAll m num en l s)
  | [], _, _ => rfl
  | _ :: l, l', _ => doAll_append m num en l l' _
theorem doAll_out (m : Mdl) (num en : Int) : ∀ (l : List It) (a : NP) (o : List Pcl), doAll m num en l (a, o) = ((doAll m num en l (a, [])).1, o ++ (doAll m num en l (a, [])).2)
  | [], a, o => by simp [doAll]
  | x :: l, a, o => by
    simp only [doAll]
    rw [doAll_out m num en l _ (o ++ _), doAll_out m num en l _ ([] ++ _)]
    simp [List.append_assoc]
theorem doAll_keep (m : Mdl) (num en : Int) : ∀ (l : List It) (s : NP × List Pcl), (doAll m num en l s).1.q = s.1.q ∧ (doAll m num en l s).1.hr = s.1.hr ∧ (doAll m num en l s).1.ws = s.1.ws ∧ (doAll m num en l s).1.dn.length = s.1.dn.length + l.length
  | [], s => ⟨rfl, rfl, rfl, rfl⟩
  | x :: l, s => by
    obtain ⟨h1, h2, h3, h4⟩ := doAll_keep m num en l ((doP m num en s.1 x).1, s.2 ++ (doP m num en s.1 x).2)
    refine ⟨h1, h2, h3, ?_⟩
    show (doAll m num en l _).1.dn.length = _
    rw [h4]
    simp only [doP, List.length_append, List.length_cons, List.length_nil]
    omega
/-- the queue's own row does not touch the rest -/
theorem doAll_q (m : Mdl) (num en : Int) (q : List It) : ∀ (l : List It) (a : NP) (o : List Pcl), doAll m num en l ({ a with q := q }, o) = ({ (doAll m num en l (a, o)).1 with q := q }, (doAll m num en l (a, o)).2)
  | [], a, o => rfl
  | x :: l, a, o => by
    simp only [doAll]
    exact doAll_q m num en q l (doP m num en a x).1 (o ++ (doP m num en a x).2)

theorem takeIn_keep (a : NP) (x : Pcl) : (takeIn a x).ws = a.ws ∧ (takeIn a x).st = a.st ∧ (takeIn a x).sent = a.sent ∧ (takeIn a x).dn = a.dn := by
  unfold takeIn
  split
  · exact ⟨rfl, rfl, rfl, rfl⟩
  · split
    · exact ⟨rfl, rfl, rfl, rfl⟩
    · split <;> exact ⟨rfl, rfl, rfl, rfl⟩
theorem takeIn_q (a : NP) (x : Pcl) : (takeIn a x).q = msgs [x] ++ a.q := by
  unfold takeIn msgs
  by_cases h : x.kd = 0
  · simp [h]
  · rw [if_neg h]
    split
    · simp [h]
    · split <;> simp [h]
theorem takeAll_keep : ∀ (l : List Pcl) (a : NP), (l.foldl takeIn a).ws = a.ws ∧ (l.foldl takeIn a).st = a.st ∧ (l.foldl takeIn a).sent = a.sent ∧ (l.foldl takeIn a).dn = a.dn
  | [], a => ⟨rfl, rfl, rfl, rfl⟩
  | x :: l, a => by
    obtain ⟨h1, h2, h3, h4⟩ := takeAll_keep l (takeIn a x)
    obtain ⟨k1, k2, k3, k4⟩ := takeIn_keep a x
    exact ⟨h1.trans k1, h2.trans k2, h3.trans k3, h4.trans k4⟩
theorem takeAll_q : ∀ (l : List Pcl) (a : NP), (l.foldl takeIn a).q.Perm (a.q ++ msgs l)
  | [], a => by simp [msgs]
  | x :: l, a => by
    refine (takeAll_q l (takeIn a x)).trans ?_
    rw [takeIn_q]
    have : msgs (x :: l) = msgs [x] ++ msgs l := msgs_append [x] l
    rw [this, ← List.append_assoc]
    exact (List.perm_append_comm (l₁ := msgs [x]) (l₂ := a.q)).append_right _

/-! ### what a receiver will have heard -/
def lastHr (c : Option Int) (l : List Pcl) : Option Int := l.foldl (fun c x => if x.kd = 1 then some x.it.t else if x.kd = 2 then none else c) c
theorem takeAll_hr (k : Int) : ∀ (l : List Pcl) (a : NP), (∀ x ∈ l, x.kd = 0 ∨ x.kd = 1 ∨ x.kd = 2) → (l.foldl takeIn a).hr k = lastHr (a.hr k) (l.filter (fun x => decide (x.k = k)))
  | [], a, _ => rfl
  | x :: l, a, h => by
    have ih := takeAll_hr k l (takeIn a x) (fun y hy => h y (by simp [hy]))
    show (l.foldl takeIn (takeIn a x)).hr k = _
    rw [ih]
    have hx := h x (by simp)
    by_cases e : x.k = k
    · rw [List.filter_cons_of_pos (by simpa using e)]
      show _ = lastHr (if x.kd = 1 then some x.it.t else if x.kd = 2 then none else a.hr k) _
      congr 1
      unfold takeIn
      rcases hx with h0 | h0 | h0
      · simp [h0]
      · simp [h0, e]
      · simp [h0, e]
    · rw [List.filter_cons_of_neg (by simpa using e)]
      congr 1
      unfold takeIn
      have e' : ¬ k = x.k := fun h => e h.symm
      rcases hx with h0 | h0 | h0
      · simp [h0]
      · simp [h0, e']
      · simp [h0, e']

end Go.Proofs.Ytaieackeflmhgaa

namespace Go.Proofs.Ytaieackeflmhgaa
open Go.RowKit Go.Sort Go.Maps

/-- what comes: the starts, and what is emitted below the end -/
def genE (m : Mdl) (en : Int) (I : Nat → List It) : List Ev := (genAll m I).filter (fun y => decide (y.it.f = -1 ∨ y.it.t < en))
/-- what the receiver of a link will have heard -/
def effo (m : Mdl) (s : NS) (k : Nat) : Option Int := match m.links[k]? with
  | some z => (match s.ps[z.t.toNat]? with
    | some a => lastHr (a.hr (k : Int)) (s.ls.getD k [])
    | none => none)
  | none => none
def effm (m : Mdl) (en : Int) (s : NS) (k : Nat) : Int := min ((effo m s k).getD en) en

structure PI (m : Mdl) (en : Int) (F : Nat → List It) (N : Nat → Nat) (ls : List (List Pcl)) (p : Nat) (a : NP) : Prop where
  dn : a.dn = hist m (p : Int) (cutI F N p)
  run : (a.st, a.sent) = runP m (p : Int) (cutI F N p)
  has : ((a.q ++ transit m ls p) ++ cutI F N p).Perm (atP p (genE m en (cutI F N)))
  tim : ∀ x ∈ a.q, 0 ≤ x.t ∧ x.t ≤ 200
  hrd : ∀ (k c : Int), a.hr k = some c → 0 ≤ k ∧ leads m p k.toNat = true ∧ 0 ≤ c ∧ c ≤ 1000
  hrp : ∀ (k : Nat) (z : MLink), m.links[k]? = some z → z.t = (p : Int) → Prom F N z ((a.hr (k : Int)).getD en)
  wys : a.ws.map (fun w => (w.k, w.a)) = (ways0 m (p : Int) m.links.length).map (fun w => (w.k, w.a))

/-- what lies on a link -/
def LnkOk (en : Int) (F : Nat → List It) (N : Nat → Nat) (z : MLink) (k : Nat) (x : Pcl) : Prop :=
  x.k = (k : Int) ∧ ((x.kd = 0 ∧ 0 ≤ x.it.t ∧ x.it.t < en) ∨ (x.kd = 1 ∧ 0 ≤ x.it.t ∧ x.it.t < en ∧ Prom F N z x.it.t) ∨ (x.kd = 2 ∧ Prom F N z en))
def SadOk (m : Mdl) (en : Int) (s : NS) (w : Wy) : Prop := -1 ≤ w.said ∧ w.said ≤ effm m en s w.k.toNat ∧ effm m en s w.k.toNat ≤ max w.said (min w.a en)

structure NInv (m : Mdl) (en : Int) (F : Nat → List It) (N : Nat → Nat) (s : NS) : Prop where
  lp : s.ps.length = np m
  ll : s.ls.length = m.links.length
  nle : ∀ p, p < np m → N p ≤ (F p).length
  pi : ∀ (p : Nat) (a : NP), s.ps[p]? = some a → PI m en F N s.ls p a
  lnk : ∀ (k : Nat) (z : MLink), m.links[k]? = some z → ∀ x ∈ s.ls.getD k [], LnkOk en F N z k x
  sad : ∀ (p : Nat) (a : NP), s.ps[p]? = some a → ∀ w ∈ a.ws, SadOk m en s w
  kn : ∀ (p i : Nat) (x : It), p < np m → i < N p → (F p)[i]? = some x → ∀ z ∈ m.links, z.t = (p : Int) → Prom F N z (x.t + 1)

theorem leads_iff {m : Mdl} {p i : Nat} : leads m p i = true ↔ ∃ z, m.links[i]? = some z ∧ z.t = (p : Int) := by
  unfold leads
  cases h : m.links[i]? with
  | none => simp
  | some z => simp

theorem mem_inbox {m : Mdl} {ls : List (List Pcl)} {p n : Nat} {x : Pcl} : x ∈ inbox m ls p n ↔ ∃ i, i < n ∧ leads m p i = true ∧ x ∈ ls.getD i [] := by
  unfold inbox
  rw [List.mem_flatMap]
  constructor
  · rintro ⟨i, hi, h⟩
    unfold boxI at h
    split at h
    · rename_i hl
      exact ⟨i, by simpa using hi, hl, h⟩
    · simp at h
  · rintro ⟨i, hi, hl, h⟩
    refine ⟨i, by simpa using hi, ?_⟩
    unfold boxI
    rw [if_pos hl]; exact h

theorem inbox_filter {m : Mdl} {ls : List (List Pcl)} {p : Nat} (k : Nat) : ∀ {n : Nat}, (∀ i, i < n → ∀ x ∈ ls.getD i [], x.k = (i : Int)) → (inbox m ls p n).filter (fun x => decide (x.k = (k : Int))) = if k < n then boxI m ls p k else []
  | 0, _ => by simp [inbox]
  | n + 1, h => by
    have ih := inbox_filter (m := m) (ls := ls) (p := p) k (n := n) (fun i hi => h i (by omega))
    unfold inbox at ih ⊢
    rw [List.range_succ, List.flatMap_append, List.filter_append, ih]
    simp only [List.flatMap_cons, List.flatMap_nil, List.append_nil]
    have hb : ∀ x ∈ boxI m ls p n, x.k = (n : Int) := fun x hx => by
      unfold boxI at hx
      split at hx
      · exact h n (by omega) x hx
      · simp at hx
    by_cases e : k = n
    · subst e
      rw [if_neg (by omega), if_pos (by omega), List.nil_append]
      exact List.filter_eq_self.2 (fun x hx => by simpa using hb x hx)
    · have h2 : (boxI m ls p n).filter (fun x => decide (x.k = (k : Int))) = [] := by
        rw [List.filter_eq_nil_iff]
        intro x hx
        have := hb x hx
        simp; omega
      rw [h2, List.append_nil]
      by_cases e2 : k < n
      · rw [if_pos e2, if_pos (by omega)]
      · rw [if_neg e2, if_neg (by omega)]

theorem lastHr_snoc (c : Option Int) (l : List Pcl) (x : Pcl) : lastHr c (l ++ [x]) = if x.kd = 1 then some x.it.t else if x.kd = 2 then none else lastHr c l := by
  unfold lastHr; rw [List.foldl_append]; rfl
theorem lastHr_append (c : Option Int) (l l' : List Pcl) : lastHr c (l ++ l') = lastHr (lastHr c l) l' := by
  unfold lastHr; rw [List.foldl_append]
theorem lastHr_msgs : ∀ (l : List Pcl) (c : Option Int), (∀ x ∈ l, x.kd = 0) → lastHr c l = c
  | [], c, _ => rfl
  | x :: l, c, h => by
    have h0 := h x (by simp)
    show lastHr (if x.kd = 1 then some x.it.t else if x.kd = 2 then none else c) l = c
    rw [h0]
    exact lastHr_msgs l c (fun y hy => h y (by simp [hy]))
theorem lastHr_some : ∀ {l : List Pcl} {c0 : Option Int} {c : Int}, lastHr c0 l = some c → c0 = some c ∨ ∃ x ∈ l, x.kd = 1 ∧ x.it.t = c
  | [], c0, c, h => .inl h
  | x :: l, c0, c, h => by
    rcases lastHr_some (l := l) h with h1 | ⟨y, hy, h1⟩
    · simp only at h1
      by_cases e : x.kd = 1
      · rw [if_pos e] at h1
        cases h1
        exact .inr ⟨x, by simp, e, rfl⟩
      · rw [if_neg e] at h1
        split at h1
        · cases h1
        · exact .inl h1
    · exact .inr ⟨y, by simp [hy], h1⟩
theorem lastHr_none : ∀ {l : List Pcl} {c0 : Option Int}, lastHr c0 l = none → c0 = none ∨ ∃ x ∈ l, x.kd = 2
  | [], c0, h => .inl h
  | x :: l, c0, h => by
    rcases lastHr_none (l := l) h with h1 | ⟨y, hy, h1⟩
    · simp only at h1
      by_cases e : x.kd = 1
      · rw [if_pos e] at h1; cases h1
      · rw [if_neg e] at h1
        by_cases e2 : x.kd = 2
        · exact .inr ⟨x, by simp, e2⟩
        · rw [if_neg e2] at h1; exact .inl h1
    · exact .inr ⟨y, by simp [hy], h1⟩

section
variable {m : Mdl} {en : Int} {F : Nat → List It} {N : Nat → Nat} {s : NS}

theorem NInv.keys (h : NInv m en F N s) : ∀ i, i < m.links.length → ∀ x ∈ s.ls.getD i [], x.k = (i : Int) := fun i hi x hx => by
  obtain ⟨z, hz⟩ := get_of_lt hi
  exact (h.lnk i z hz x hx).1
theorem NInv.kinds (h : NInv m en F N s) {p : Nat} : ∀ x ∈ inbox m s.ls p m.links.length, x.kd = 0 ∨ x.kd = 1 ∨ x.kd = 2 := fun x hx => by
  obtain ⟨i, hi, _, hx⟩ := mem_inbox.1 hx
  obtain ⟨z, hz⟩ := get_of_lt hi
  rcases (h.lnk i z hz x hx).2 with h1 | h1 | h1
  · exact .inl h1.1
  · exact .inr (.inl h1.1)
  · exact .inr (.inr h1.1)
/-- what p has heard along link k when all is taken in -/
theorem NInv.taken_hr (h : NInv m en F N s) {p : Nat} {a : NP} (k : Nat) (hk : k < m.links.length) : (taken m s.ls p m.links.length a).hr (k : Int) = lastHr (a.hr (k : Int)) (boxI m s.ls p k) := by
  unfold taken
  rw [takeAll_hr (k : Int) _ a h.kinds, inbox_filter k h.keys, if_pos hk]
theorem boxI_leads {ls : List (List Pcl)} {p k : Nat} (h : leads m p k = true) : boxI m ls p k = ls.getD k [] := by unfold boxI; rw [if_pos h]
theorem boxI_not {ls : List (List Pcl)} {p k : Nat} (h : ¬ leads m p k = true) : boxI m ls p k = [] := by unfold boxI; rw [if_neg h]
theorem NInv.taken_hr' (h : NInv m en F N s) {p : Nat} {a : NP} {k c : Int} (hc : (taken m s.ls p m.links.length a).hr k = some c) : a.hr k = some c ∨ (0 ≤ k ∧ leads m p k.toNat = true ∧ ∃ x ∈ s.ls.getD k.toNat [], x.kd = 1 ∧ x.it.t = c) := by
  unfold taken at hc
  rw [takeAll_hr k _ a h.kinds] at hc
  rcases lastHr_some hc with h1 | ⟨x, hx, h1, h2⟩
  · exact .inl h1
  · obtain ⟨hx, hxk⟩ := List.mem_filter.1 hx
    simp only [decide_eq_true_eq] at hxk
    obtain ⟨i, hi, hl, hx⟩ := mem_inbox.1 hx
    have := h.keys i hi x hx
    have e : k.toNat = i := by omega
    exact .inr ⟨by omega, by rw [e]; exact hl, x, by rw [e]; exact hx, h1, h2⟩

/-- what comes to p is taken in -/
theorem NInv.deliver (hm : Right m) (hen : en ≤ 200) (h : NInv m en F N s) {p : Nat} {a : NP} (hp : s.ps[p]? = some a) : NInv m en F N ⟨s.ps.set p (taken m s.ls p m.links.length a), drain m s.ls p m.links.length⟩ := by
  have hpl : p < s.ps.length := get_lt hp
  have hP := h.pi p a hp
  have hK := takeAll_keep (inbox m s.ls p m.links.length) a
  have hdr : ∀ k, k < m.links.length → (drain m s.ls p m.links.length).getD k [] = if leads m p k = true then [] else s.ls.getD k [] := fun k hk => by
    rw [drain_get]
    by_cases e : leads m p k = true <;> simp [e, hk]
  refine ⟨by simp [h.lp], by rw [drain_length]; exact h.ll, h.nle, ?_, ?_, ?_, h.kn⟩
  · intro q b hq
    simp only at hq
    rcases set_get hq with ⟨e1, e2⟩ | ⟨e1, e2⟩
    · subst e1 e2
      refine ⟨?_, ?_, ?_, ?_, ?_, ?_, ?_⟩
      · show (taken m s.ls q m.links.length a).dn = _
        unfold taken; rw [hK.2.2.2]; exact hP.dn
      · show ((taken m s.ls q m.links.length a).st, (taken m s.ls q m.links.length a).sent) = _
        unfold taken; rw [hK.2.1, hK.2.2.1]; exact hP.run
      · unfold transit
        simp only
        rw [inbox_drain, if_pos rfl]
        have h1 : (taken m s.ls q m.links.length a).q.Perm (a.q ++ transit m s.ls q) := takeAll_q _ a
        refine List.Perm.trans ?_ hP.has
        refine List.Perm.append_right _ ?_
        simpa [msgs] using h1
      · intro x hx
        have h1 : (taken m s.ls q m.links.length a).q.Perm (a.q ++ transit m s.ls q) := takeAll_q _ a
        rcases List.mem_append.1 (h1.mem_iff.1 hx) with h2 | h2
        · exact hP.tim x h2
        · obtain ⟨y, hy, hy0, rfl⟩ := mem_msgs.1 h2
          obtain ⟨i, hi, _, hy⟩ := mem_inbox.1 hy
          obtain ⟨z, hz⟩ := get_of_lt hi
          rcases (h.lnk i z hz y hy).2 with h3 | h3 | h3 <;> omega
      · intro k c hc
        rcases h.taken_hr' hc with h1 | ⟨h1, h2, x, hx, h3, h4⟩
        · exact hP.hrd k c h1
        · obtain ⟨z, hz, hzt⟩ := leads_iff.1 h2
          refine ⟨h1, h2, ?_⟩
          rcases (h.lnk _ z hz x hx).2 with h5 | h5 | h5 <;> omega
      · intro k z hz hzt
        show Prom F N z (((taken m s.ls q m.links.length a).hr (k : Int)).getD en)
        have hl : leads m q k = true := leads_iff.2 ⟨z, hz, hzt⟩
        rw [h.taken_hr k (get_lt hz), boxI_leads hl]
        cases hc : lastHr (a.hr (k : Int)) (s.ls.getD k []) with
        | none =>
          rcases lastHr_none hc with h1 | ⟨x, hx, h1⟩
          · have := hP.hrp k z hz hzt
            rw [h1] at this; exact this
          · rcases (h.lnk k z hz x hx).2 with h5 | h5 | h5
            · omega
            · omega
            · exact h5.2
        | some c =>
          rcases lastHr_some hc with h1 | ⟨x, hx, h1, h2⟩
          · have := hP.hrp k z hz hzt
            rw [h1] at this; exact this
          · rcases (h.lnk k z hz x hx).2 with h5 | h5 | h5
            · omega
            · rw [h2] at h5; exact h5.2.2.2
            · omega
      · show (taken m s.ls q m.links.length a).ws.map _ = _
        unfold taken; rw [hK.1]; exact hP.wys
    · have hQ := h.pi q b e2
      refine ⟨hQ.dn, hQ.run, ?_, hQ.tim, hQ.hrd, hQ.hrp, hQ.wys⟩
      unfold transit
      simp only
      rw [inbox_drain, if_neg e1]
      exact hQ.has
  · intro k z hz x hx
    simp only at hx
    rw [hdr k (get_lt hz)] at hx
    split at hx
    · simp at hx
    · exact h.lnk k z hz x hx
  · have heff : ∀ k : Nat, effo m ⟨s.ps.set p (taken m s.ls p m.links.length a), drain m s.ls p m.links.length⟩ k = effo m s k := by
      intro k
      unfold effo
      cases hz : m.links[k]? with
      | none => rfl
      | some z =>
        simp only
        have hzb := hm.link hz
        by_cases e : z.t.toNat = p
        · rw [e, List.getElem?_set_self hpl, hp]
          simp only
          have hl : leads m p k = true := leads_iff.2 ⟨z, hz, by omega⟩
          rw [hdr k (get_lt hz), if_pos hl, h.taken_hr k (get_lt hz), boxI_leads hl]
          rfl
        · rw [List.getElem?_set_ne (by omega)]
          have hl : ¬ leads m p k = true := fun hl => by
            obtain ⟨z', hz', hzt⟩ := leads_iff.1 hl
            rw [hz] at hz'; cases hz'; omega
          rw [hdr k (get_lt hz), if_neg hl]
    intro q b hq w hw
    simp only at hq
    have hbw : ∃ b', s.ps[q]? = some b' ∧ b'.ws = b.ws := by
      rcases set_get hq with ⟨e1, e2⟩ | ⟨e1, e2⟩
      · subst e1 e2; exact ⟨a, hp, by unfold taken; rw [hK.1]⟩
      · exact ⟨b, e2, rfl⟩
    obtain ⟨b', hb', hbw⟩ := hbw
    have := h.sad q b' hb' w (by rw [hbw]; exact hw)
    unfold SadOk effm at this ⊢
    rw [heff]
    exact this

end

end Go.Proofs.Ytaieackeflmhgaa

