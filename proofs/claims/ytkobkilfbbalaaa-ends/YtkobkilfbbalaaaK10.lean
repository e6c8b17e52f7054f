/-
  The program: newProcesses.
  The program: countEvents.
  The reference: Check.
  The program: Check answers as the document asks.
-/
import Derived.Test.YtkobkilfbbalaaaK06
import Derived.Test.YtkobkilfbbalaaaK08
import Derived.Test.YtkobkilfbbalaaaK09
namespace Go.Proofs.Ytkobkilfbbalaaa
open Go.RowKit Go.Sort Go.Maps

theorem made_ptrs (n : Nat) : madeCells #[Value.pointer none] n = (List.replicate n (Value.pointer none)).toArray := by
  apply Array.ext
  · simp [madeCells]
  · intro i h1 h2
    simp [madeCells, Nat.mod_one]
theorem info_pp : (Try.prog.info? 115).map (fun i => (i.zero, i.size, i.bytes)) = some (some (.pointer none), 1, 8) := by kernel_rfl

theorem set_snoc (a : List Value) (N : Nat) (y : Value) (h : a.length < N) : (a ++ List.replicate (N - a.length) (Value.pointer none)).toArray.setIfInBounds a.length y = ((a ++ [y]) ++ List.replicate (N - (a.length + 1)) (Value.pointer none)).toArray := by
  have e : N - a.length = (N - (a.length + 1)) + 1 := by omega
  rw [e, List.replicate_succ, List.setIfInBounds_toArray, List.set_append_right _ _ (Nat.le_refl _), Nat.sub_self]
  simp

theorem Procs.snoc {w w' : World} {B pb N : Nat} {ps : List Pr} {p : Pr} (h : Procs w B pb N ps) (hl : ps.length < N) (k : KeptF (fun i => i = pb) w w') (hb : Blk w' pb ((ps.map ptr ++ List.replicate (N - ps.length) (Value.pointer none)).toArray.setIfInBounds ps.length (ptr p)) 115)
    (hp : PAt w' B p) (hf : ∀ i, PF p i → w.heap.size ≤ i) : Procs w' B pb N (ps ++ [p]) := by
  have hget : ∀ (i : Nat) (q : Pr), (ps ++ [p])[i]? = some q → (i = ps.length ∧ q = p) ∨ (i < ps.length ∧ ps[i]? = some q) := by
    intro i q hq
    by_cases hi : i < ps.length
    · rw [List.getElem?_append_left hi] at hq; exact .inr ⟨hi, hq⟩
    · have := get_lt hq
      rw [List.length_append, List.length_singleton] at this
      have e : i = ps.length := by omega
      subst e
      rw [List.getElem?_append_right (Nat.le_refl _), Nat.sub_self] at hq
      simp at hq
      exact .inl ⟨rfl, hq.symm⟩
  have hlt : ∀ q ∈ ps, ∀ i, PF q i → i < w.heap.size := fun q hq i hi => ((h.each q hq).lt hi).2
  refine ⟨?_, ?_, ?_, ?_, h.low⟩
  · have e := set_snoc (ps.map ptr) N (ptr p) (by simpa using hl)
    rw [List.length_map] at e
    rw [e] at hb
    rw [List.map_append, List.length_append, List.length_singleton]
    exact hb
  · intro q hq
    rcases List.mem_append.1 hq with hq | hq
    · exact (h.each q hq).keep k (fun i hi e => h.out q hq (by subst e; exact hi))
    · simp at hq; subst hq; exact hp
  · intro i j x y hx hy hij c hc hc'
    rcases hget i x hx with ⟨e1, e2⟩ | ⟨e1, e2⟩
    · rcases hget j y hy with ⟨e3, _⟩ | ⟨e3, e4⟩
      · omega
      · subst e2
        have h1 := hf c hc
        have h2 := hlt y (List.mem_of_getElem? e4) c hc'
        omega
    · rcases hget j y hy with ⟨e3, e4⟩ | ⟨e3, e4⟩
      · subst e4
        have h1 := hf c hc'
        have h2 := hlt x (List.mem_of_getElem? e2) c hc
        omega
      · exact h.apart i j x y e2 e4 hij c hc hc'
  · intro q hq hk
    rcases List.mem_append.1 hq with hq | hq
    · exact h.out q hq hk
    · simp at hq; subst hq
      have h1 := hf pb hk
      have h2 := h.arr.lt
      omega

def fresh (p : Pr) (i : Nat) : Prop := p.num = (i : Int) ∧ p.st = 0 ∧ p.sent = 0 ∧ p.its = [] ∧ p.pushed = 0 ∧ p.dn = []
/-- a process's clock at the beginning, and that every push is seen -/
structure Clock0 (m : Mdl) (en : Int) (i : Nat) (p : Pr) : Prop where
  en : p.en = en
  hr : p.hr = hear0 m (i : Int) m.links.length
  ws : p.ws = ways0 m (i : Int) m.links.length
  pu : p.pushed = p.its.length

/-- the six cells of a model's block -/
def MC6 (W : World) (b : Nat) (c0 c1 c2 c3 c4 c5 : Value) : Prop := W.cell? ⟨b, 0, none⟩ = some c0 ∧ W.cell? ⟨b, 1, none⟩ = some c1 ∧ W.cell? ⟨b, 2, none⟩ = some c2 ∧ W.cell? ⟨b, 3, none⟩ = some c3 ∧ W.cell? ⟨b, 4, none⟩ = some c4 ∧ W.cell? ⟨b, 5, none⟩ = some c5
theorem MC6.keep {F : Nat → Prop} {W W' : World} {b : Nat} {c0 c1 c2 c3 c4 c5 : Value} (h : MC6 W b c0 c1 c2 c3 c4 c5) (k : KeptF F W W') (hF : ¬ F b) : MC6 W' b c0 c1 c2 c3 c4 c5 := by
  have hl := block_lt_of_cell h.1
  exact ⟨(k.cell (p := ⟨b, 0, none⟩) hl hF).trans h.1, (k.cell (p := ⟨b, 1, none⟩) hl hF).trans h.2.1, (k.cell (p := ⟨b, 2, none⟩) hl hF).trans h.2.2.1, (k.cell (p := ⟨b, 3, none⟩) hl hF).trans h.2.2.2.1, (k.cell (p := ⟨b, 4, none⟩) hl hF).trans h.2.2.2.2.1, (k.cell (p := ⟨b, 5, none⟩) hl hF).trans h.2.2.2.2.2⟩

theorem sim_fresh {N : Nat} {ps : List Pr} (hl : ps.length = N) (h : ∀ (i : Nat) (p : Pr), ps[i]? = some p → fresh p i) : Sim N [] (List.replicate N 0) (List.replicate N 0) (List.replicate N []) ps := by
  refine ⟨hl, fun i p hp => (h i p hp).1, fun i p hp => ?_, fun i p hp => ?_, fun i p hp => ?_, fun i p hp => ?_⟩
  · rw [(h i p hp).2.1, List.getElem?_replicate, if_pos (by rw [← hl]; exact get_lt hp)]
  · rw [(h i p hp).2.2.1, List.getElem?_replicate, if_pos (by rw [← hl]; exact get_lt hp)]
  · rw [(h i p hp).2.2.2.2.2, List.getElem?_replicate, if_pos (by rw [← hl]; exact get_lt hp)]
  · rw [(h i p hp).2.2.2.1]; exact List.Perm.refl _

set_option maxRecDepth 100000 in
set_option maxHeartbeats 8000000 in
theorem newProcs_any (w : World) (Bm : Nat) (lv rv sv : Value) (m : Mdl) (R : List RuleV) (en : Int) (hM : ModelAt w Bm lv rv sv m R) (hBm : Bm ≤ w.heap.size) (hm : Right m) :
    Calls Try.prog 51 #[.agg #[.int .i64 m.procs, .int .i64 m.states, .int .i64 m.loads, lv, rv, sv], .int .i64 en] w fun e w' => ∃ (pb : Nat) (ps : List Pr), e = .returned (.slice (some ⟨pb, 0, none⟩) (np m) (np m)) ∧ Procs w' (w.heap.size + 1) pb (np m) ps ∧ Sim (np m) (c0 m).wait (c0 m).states (c0 m).seqs (c0 m).done ps ∧ (∀ p ∈ ps, p.pushed ≤ 12) ∧ Below w.heap.size w w' ∧ (∀ (i : Nat) (p : Pr), ps[i]? = some p → Clock0 m en i p) := by
  have hp1 := hm.lim.p1
  have hp2 := hm.lim.p2
  obtain ⟨n, hn⟩ : ∃ n : Nat, m.procs = (n : Int) := ⟨m.procs.toNat, by omega⟩
  have hnp : np m = n := by unfold np; omega
  have Hnp : Hid (np m = n) := hnp
  have hn6 : n ≤ 6 := by omega
  have Hmn : Hid (m.procs = (n : Int)) := hn
  rw [hn, hnp]
  obtain ⟨ao2, cap2, hsv, hcap2⟩ := RowsAt.form hM.starts
  subst hsv
  obtain ⟨ao1, cap1, hlv, hcap1⟩ := RowsAt.form hM.links
  subst hlv
  obtain ⟨ao3, cap3, hrv, hcap3⟩ := RowsAt.form hM.rules.1
  subst hrv
  have hns := hm.lim.ns
  have hmk1 := run_make_row' (P := Try.prog) 116 115 (.pointer none) 8 Try.underlying116 info_pp rfl .i64 .i64 n (by omega) (by omega)
  obtain ⟨W0, hW0⟩ : ∃ W0, W0 = w.alloc (.cells #[.int .i64 (n : Int), .int .i64 m.states, .int .i64 m.loads, .slice ao1 m.links.length cap1, .slice ao3 R.length cap3, .slice ao2 m.starts.length cap2] 31) := ⟨_, rfl⟩
  have HW0 : Hid (W0 = w.alloc (.cells #[.int .i64 (n : Int), .int .i64 m.states, .int .i64 m.loads, .slice ao1 m.links.length cap1, .slice ao3 R.length cap3, .slice ao2 m.starts.length cap2] 31)) := hW0
  have hB0 : Below w.heap.size w W0 := by rw [hW0]; exact (Below.refl _ _).alloc (Nat.le_refl _) _
  have hmb : Blk W0 w.heap.size #[.int .i64 (n : Int), .int .i64 m.states, .int .i64 m.loads, .slice ao1 m.links.length cap1, .slice ao3 R.length cap3, .slice ao2 m.starts.length cap2] 31 := by rw [hW0]; exact heap_alloc_new w _
  have hz : W0.heap.size = w.heap.size + 1 := by rw [hW0]; simp
  have Hz : Hid (W0.heap.size = w.heap.size + 1) := hz
  have hA : Blk (W0.alloc (.cells (madeCells #[.pointer none] n) 115)) (w.heap.size + 1) (madeCells #[.pointer none] n) 115 := blk_new hz.symm
  have hP0 : Procs (W0.alloc (.cells (madeCells #[.pointer none] n) 115)) (w.heap.size + 1) (w.heap.size + 1) n [] := by
    refine ⟨?_, fun p hp => by simp at hp, fun i j p q hp => by simp at hp, fun p hp => by simp at hp, Nat.le_refl _⟩
    show Blk _ _ ([] ++ List.replicate (n - 0) (Value.pointer none)).toArray _
    rw [List.nil_append, Nat.sub_zero, ← made_ptrs]
    exact hA
  have hbA : Below (w.heap.size + 1) W0 (W0.alloc (.cells (madeCells #[.pointer none] n) 115)) := (Below.refl _ _).alloc (by rw [hz]; exact Nat.le_refl _) _
  clear hn hnp hz hA
  have m0 : W0.cell? ⟨w.heap.size, 0, none⟩ = some (.int .i64 (n : Int)) := hmb.cell 0
  have hlm := hmb.lt
  go_enter Try.func51, Try.ntmps51
  go_upto_region 1 with fail
  rw [← HW0.out]
  clear hW0
  go_wp2
  rw [Hz.out]
  clear m0 hmk1
  go_loopw [14] (fun s14 wr => ∃ (k : Nat) (ps : List Pr), s14 = .int .i64 k ∧ k ≤ n ∧ ps.length = k ∧ Procs wr (w.heap.size + 1) (w.heap.size + 1) n ps ∧ (∀ (i : Nat) (p : Pr), ps[i]? = some p → fresh p i ∧ Clock0 m en i p) ∧ Below (w.heap.size + 1) W0 wr) (fun s14 _ => n - (intOf s14).toNat)
  case atStart => exact ⟨0, [], rfl, Nat.zero_le _, rfl, hP0, fun i p hp => by simp at hp, hbA⟩
  case round =>
    clear hP0 hbA
    obtain ⟨k, ps, rfl, hk, hlen, hP, hfr, hbl⟩ := hrel
    have Hlen : Hid (ps.length = k) := hlen
    have hBk : w.heap.size + 1 ≤ wr.heap.size := by have := hbl.size; rw [Hz.out] at this; exact this
    by_cases hlt : k < n
    · have hlp := hP.arr.lt
      have hmw : Blk wr w.heap.size #[.int .i64 (n : Int), .int .i64 m.states, .int .i64 m.loads, .slice ao1 m.links.length cap1, .slice ao3 R.length cap3, .slice ao2 m.starts.length cap2] 31 := (hbl.block _ (Nat.lt_succ_self _)).trans hmb
      have hS0 : MC6 wr w.heap.size (.int .i64 (n : Int)) (.int .i64 m.states) (.int .i64 m.loads) (.slice ao1 m.links.length cap1) (.slice ao3 R.length cap3) (.slice ao2 m.starts.length cap2) := ⟨hmw.cell 0, hmw.cell 1, hmw.cell 2, hmw.cell 3, hmw.cell 4, hmw.cell 5⟩
      have hS0d : MC6 wr.drew w.heap.size (.int .i64 (n : Int)) (.int .i64 m.states) (.int .i64 m.loads) (.slice ao1 m.links.length cap1) (.slice ao3 R.length cap3) (.slice ao2 m.starts.length cap2) := hS0
      go_wp2
      refine wp_region_held_drew (S := (fun W => MC6 W w.heap.size (.int .i64 (n : Int)) (.int .i64 m.states) (.int .i64 m.loads) (.slice ao1 m.links.length cap1) (.slice ao3 R.length cap3) (.slice ao2 m.starts.length cap2))) (by kernel_rfl) ?_ (fun hHeld => ?_)
      · (try dsimp only)
        assumption
      refine takeL 0 (v := ?_) rfl (by kernel_rfl) (by kernel_rfl) (by kernel_rfl) (fun _ _ _ h => h) (by rfl) ?_ (by assumption) ?_
      rotate_left
      · intro w hSw
        (try simp only [MC6] at hSw)
        go_simp
        all_goals with_reducible rfl
      try simp only [Act.put, List.setIfInBounds_toArray, List.set_cons_zero, List.set_cons_succ]
      refine takeL 1 (v := ?_) rfl (by kernel_rfl) (by kernel_rfl) (by kernel_rfl) (fun _ _ _ h => h) (by rfl) ?_ (by assumption) ?_
      rotate_left
      · intro w hSw
        (try simp only [MC6] at hSw)
        go_simp
        all_goals with_reducible rfl
      try simp only [Act.put, List.setIfInBounds_toArray, List.set_cons_zero, List.set_cons_succ]
      refine takeL 5 (v := ?_) rfl (by kernel_rfl) (by kernel_rfl) (by kernel_rfl) (fun _ _ _ h => h) (by rfl) ?_ (by assumption) ?_
      rotate_left
      · intro w hSw
        (try simp only [MC6] at hSw)
        go_simp
        all_goals with_reducible rfl
      try simp only [Act.put, List.setIfInBounds_toArray, List.set_cons_zero, List.set_cons_succ]
      refine takeL 6 (v := ?_) rfl (by kernel_rfl) (by kernel_rfl) (by kernel_rfl) (fun _ _ _ h => h) (by rfl) ?_ (by assumption) ?_
      rotate_left
      · intro w hSw
        (try simp only [MC6] at hSw)
        go_simp
        all_goals with_reducible rfl
      try simp only [Act.put, List.setIfInBounds_toArray, List.set_cons_zero, List.set_cons_succ]
      refine takeL 7 (v := ?_) rfl (by kernel_rfl) (by kernel_rfl) (by kernel_rfl) (fun _ _ _ h => h) (by rfl) ?_ (by assumption) ?_
      rotate_left
      · intro w hSw
        (try simp only [MC6] at hSw)
        go_simp
        all_goals with_reducible rfl
      try simp only [Act.put, List.setIfInBounds_toArray, List.set_cons_zero, List.set_cons_succ]
      refine takeL 9 (v := ?_) rfl (by kernel_rfl) (by kernel_rfl) (by kernel_rfl) (fun _ _ _ h => h) (by rfl) ?_ (by assumption) ?_
      rotate_left
      · intro w hSw
        (try simp only [MC6] at hSw)
        go_simp
        all_goals with_reducible rfl
      try simp only [Act.put, List.setIfInBounds_toArray, List.set_cons_zero, List.set_cons_succ]
      refine wpAnyH_ready (rs := [2]) (by kernel_rfl) (by simp) ?_
      refine consL rfl (fun K hK => ?_) AllReadyH.nil
      go_simp
      refine (new_any 8 wr.drew).mono ?_
      rintro e1 w1 ⟨rfl, width, hw1, hw2, hw1e⟩
      rw [show wr.drew.heap.size = wr.heap.size from rfl] at hw1e
      rw [show wr.drew.heap.size = wr.heap.size from rfl]
      have hkq : KeptF (fun _ => False) wr w1 := by rw [hw1e]; exact ((KeptF.drew (KeptF.refl _ wr)).alloc _).alloc _
      have hzq : w1.heap.size = wr.heap.size + 2 := by rw [hw1e]; simp
      have hqb : Blk w1 (wr.heap.size + 1) #[.int .i64 width, .int .i64 0, .int .i64 0, .slice none 0 0, .map (some wr.heap.size)] 100 := by rw [hw1e]; exact blk_newP (by simp)
      have hmm1 : w1.heap[wr.heap.size]? = some (.map #[] 0) := by
        rw [hw1e]
        exact (Below.heap_alloc _ _ _ (by simp)).trans (heap_alloc_new wr.drew _)
      have p0 : w1.cell? ⟨wr.heap.size + 1, 0, none⟩ = some (.int .i64 width) := hqb.cell 0
      have p1 : w1.cell? ⟨wr.heap.size + 1, 1, none⟩ = some (.int .i64 0) := hqb.cell 1
      have p2 : w1.cell? ⟨wr.heap.size + 1, 2, none⟩ = some (.int .i64 0) := hqb.cell 2
      have p3 : w1.cell? ⟨wr.heap.size + 1, 3, none⟩ = some (.slice none 0 0) := hqb.cell 3
      have p4 : w1.cell? ⟨wr.heap.size + 1, 4, none⟩ = some (.map (some wr.heap.size)) := hqb.cell 4
      have hSq := hS0.keep hkq (fun e => e)
      have Hzq : Hid (w1.heap.size = wr.heap.size + 2) := hzq
      clear hw1e hzq
      go_wp2_with fail
      refine hK.out _ _ ?_ (fun hHeld => ?_)
      · (try dsimp only)
        assumption
      clear hK K
      try simp only [Act.put, List.setIfInBounds_toArray, List.set_cons_zero, List.set_cons_succ]
      refine takeL 3 (v := ?_) rfl (by kernel_rfl) (by kernel_rfl) (by kernel_rfl) (fun _ _ _ h => h) (by rfl) ?_ (by assumption) ?_
      rotate_left
      · intro w hSw
        (try simp only [MC6] at hSw)
        go_simp
        all_goals with_reducible rfl
      try simp only [Act.put, List.setIfInBounds_toArray, List.set_cons_zero, List.set_cons_succ]
      refine wpAnyH_ready (rs := [4, 8]) (by kernel_rfl) (by simp) ?_
      refine consL rfl (fun K hK => ?_) (consL rfl (fun K hK => ?_) AllReadyH.nil)
      go_simp
      refine hK.out _ _ ?_ (fun hHeld => ?_)
      · (try dsimp only)
        assumption
      clear hK K
      try simp only [Act.put, List.setIfInBounds_toArray, List.set_cons_zero, List.set_cons_succ]
      refine wpAnyH_ready (rs := [8]) (by kernel_rfl) (by simp) ?_
      refine consL rfl (fun K hK => ?_) AllReadyH.nil
      go_simp
      have hbw1 : Below w.heap.size w w1 := hB0.trans ((hbl.trans (KeptF.below hkq hBk (fun _ e => e.elim))).mono (Nat.le_succ _))
      have hcl := newClock_any w1 Bm (.slice ao1 m.links.length cap1) (.slice ao3 R.length cap3) (.slice ao2 m.starts.length cap2) m R (k : Int) en (hM.keep (hbw1.mono hBm)) (Nat.le_trans hBm hbw1.size) hm
      rw [Hmn.out] at hcl
      refine hcl.mono ?_
      rintro e2 w2 ⟨hb, wv, rfl, hmp, hO, hhb, hwh, hb2⟩
      obtain ⟨aw, nw, cw, hwf⟩ : ∃ aw nw cw, wv = .slice aw nw cw := by obtain ⟨aw, cw, h1, _⟩ := hO.form'; exact ⟨aw, _, cw, h1⟩
      subst hwf
      rw [Hzq.out] at hO hhb
      have hk2 : KeptF (fun _ => False) w1 w2 := kept_of_below' hb2
      have hqb2 := hqb.keep hk2 (fun e => e)
      have hmm2 : w2.heap[wr.heap.size]? = some (.map #[] 0) := (hk2.block _ (by rw [Hzq.out]; omega) (fun e => e)).trans hmm1
      have q0 : w2.cell? ⟨wr.heap.size + 1, 0, none⟩ = some (.int .i64 width) := hqb2.cell 0
      have q1 : w2.cell? ⟨wr.heap.size + 1, 1, none⟩ = some (.int .i64 0) := hqb2.cell 1
      have q2 : w2.cell? ⟨wr.heap.size + 1, 2, none⟩ = some (.int .i64 0) := hqb2.cell 2
      have q3 : w2.cell? ⟨wr.heap.size + 1, 3, none⟩ = some (.slice none 0 0) := hqb2.cell 3
      have q4 : w2.cell? ⟨wr.heap.size + 1, 4, none⟩ = some (.map (some wr.heap.size)) := hqb2.cell 4
      have hz2 : wr.heap.size + 2 ≤ w2.heap.size := by have := hb2.size; rw [Hzq.out] at this; exact this
      have hkW : KeptF (fun _ => False) wr (w2.alloc (.cells #[.int .i64 width, .int .i64 0, .int .i64 0, .slice none 0 0, .map (some wr.heap.size), .int .i64 en, .map (some hb), .slice aw nw cw, .int .i64 (k : Int), .int .i64 0, .int .i64 0, .slice none 0 0] 125)) := (hkq.trans hk2).alloc _
      have hPW := hP.grow hkW
      have c9 : (w2.alloc (.cells #[.int .i64 width, .int .i64 0, .int .i64 0, .slice none 0 0, .map (some wr.heap.size), .int .i64 en, .map (some hb), .slice aw nw cw, .int .i64 (k : Int), .int .i64 0, .int .i64 0, .slice none 0 0] 125)).cell? ⟨w.heap.size + 1, k, none⟩ = some (.pointer none) := by
        rw [hPW.arr.cell, List.getElem?_toArray, List.getElem?_append_right (by simp [Hlen.out]), List.length_map, Hlen.out, Nat.sub_self, List.getElem?_replicate, if_pos (by omega)]
      have f9 : (w2.alloc (.cells #[.int .i64 width, .int .i64 0, .int .i64 0, .slice none 0 0, .map (some wr.heap.size), .int .i64 en, .map (some hb), .slice aw nw cw, .int .i64 (k : Int), .int .i64 0, .int .i64 0, .slice none 0 0] 125)).frozen? ⟨w.heap.size + 1, k, none⟩ = false := hPW.arr.frozen k
      have hk3 : KeptF (fun i => i = w.heap.size + 1) (w2.alloc (.cells #[.int .i64 width, .int .i64 0, .int .i64 0, .slice none 0 0, .map (some wr.heap.size), .int .i64 en, .map (some hb), .slice aw nw cw, .int .i64 (k : Int), .int .i64 0, .int .i64 0, .slice none 0 0] 125)) ((w2.alloc (.cells #[.int .i64 width, .int .i64 0, .int .i64 0, .slice none 0 0, .map (some wr.heap.size), .int .i64 en, .map (some hb), .slice aw nw cw, .int .i64 (k : Int), .int .i64 0, .int .i64 0, .slice none 0 0] 125)).setCell ⟨w.heap.size + 1, k, none⟩ (.pointer (some ⟨w2.heap.size, 0, none⟩))) := (KeptF.refl (fun i => i = w.heap.size + 1) _).setCell (p := ⟨w.heap.size + 1, k, none⟩) (.inl rfl) _
      have hSc := hSq.keep hk2 (fun e => e)
      have hSp := hSc.keep ((KeptF.refl (fun _ => False) w2).alloc (.cells #[.int .i64 width, .int .i64 0, .int .i64 0, .slice none 0 0, .map (some wr.heap.size), .int .i64 en, .map (some hb), .slice aw nw cw, .int .i64 (k : Int), .int .i64 0, .int .i64 0, .slice none 0 0] 125)) (fun e => e)
      have hSe := hSp.keep hk3 (by omega)
      clear hcl
      go_wp2_with fail
      refine hK.out _ _ ?_ (fun hHeld => ?_)
      · (try dsimp only)
        assumption
      clear hK K
      try simp only [Act.put, List.setIfInBounds_toArray, List.set_cons_zero, List.set_cons_succ]
      refine takeL 10 (v := ?_) rfl (by kernel_rfl) (by kernel_rfl) (by kernel_rfl) (fun _ _ _ h => h) (by rfl) ?_ (by assumption) ?_
      rotate_left
      · intro w hSw
        (try simp only [MC6] at hSw)
        go_simp
        all_goals with_reducible rfl
      try simp only [Act.put, List.setIfInBounds_toArray, List.set_cons_zero, List.set_cons_succ]
      refine wpAnyH_ready (rs := [11]) (by kernel_rfl) (by simp) ?_
      refine consL rfl (fun K hK => ?_) AllReadyH.nil
      go_simp
      refine hK.out _ _ ?_ (fun hHeld => ?_)
      · (try dsimp only)
        assumption
      clear hK K
      try simp only [Act.put, List.setIfInBounds_toArray, List.set_cons_zero, List.set_cons_succ]
      refine takeL 12 (v := ?_) rfl (by kernel_rfl) (by kernel_rfl) (by kernel_rfl) (fun _ _ _ h => h) (by rfl) ?_ (by assumption) ?_
      rotate_left
      · intro w hSw
        (try simp only [MC6] at hSw)
        go_simp
        all_goals with_reducible rfl
      try simp only [Act.put, List.setIfInBounds_toArray, List.set_cons_zero, List.set_cons_succ]
      refine wpAnyH_ready (rs := [13]) (by kernel_rfl) (by simp) ?_
      refine consL rfl (fun K hK => ?_) AllReadyH.nil
      go_simp
      refine hK.out _ _ ?_ (fun hHeld => ?_)
      · (try dsimp only)
        assumption
      clear hK K
      try simp only [Act.put, List.setIfInBounds_toArray, List.set_cons_zero, List.set_cons_succ]
      refine wpAnyH_done (by kernel_rfl) ?_ _
      rotate_left 1
      go_simp
      have hbw1 : Below w.heap.size w w1 := hB0.trans ((hbl.trans (KeptF.below hkq hBk (fun _ e => e.elim))).mono (Nat.le_succ _))
      have hcl := newClock_any w1 Bm (.slice ao1 m.links.length cap1) (.slice ao3 R.length cap3) (.slice ao2 m.starts.length cap2) m R (k : Int) en (hM.keep (hbw1.mono hBm)) (Nat.le_trans hBm hbw1.size) hm
      rw [Hmn.out] at hcl
      refine hcl.mono ?_
      rintro e2 w2 ⟨hb, wv, rfl, hmp, hO, hhb, hwh, hb2⟩
      obtain ⟨aw, nw, cw, hwf⟩ : ∃ aw nw cw, wv = .slice aw nw cw := by obtain ⟨aw, cw, h1, _⟩ := hO.form'; exact ⟨aw, _, cw, h1⟩
      subst hwf
      rw [Hzq.out] at hO hhb
      have hk2 : KeptF (fun _ => False) w1 w2 := kept_of_below' hb2
      have hqb2 := hqb.keep hk2 (fun e => e)
      have hmm2 : w2.heap[wr.heap.size]? = some (.map #[] 0) := (hk2.block _ (by rw [Hzq.out]; omega) (fun e => e)).trans hmm1
      have q0 : w2.cell? ⟨wr.heap.size + 1, 0, none⟩ = some (.int .i64 width) := hqb2.cell 0
      have q1 : w2.cell? ⟨wr.heap.size + 1, 1, none⟩ = some (.int .i64 0) := hqb2.cell 1
      have q2 : w2.cell? ⟨wr.heap.size + 1, 2, none⟩ = some (.int .i64 0) := hqb2.cell 2
      have q3 : w2.cell? ⟨wr.heap.size + 1, 3, none⟩ = some (.slice none 0 0) := hqb2.cell 3
      have q4 : w2.cell? ⟨wr.heap.size + 1, 4, none⟩ = some (.map (some wr.heap.size)) := hqb2.cell 4
      have hz2 : wr.heap.size + 2 ≤ w2.heap.size := by have := hb2.size; rw [Hzq.out] at this; exact this
      have hkW : KeptF (fun _ => False) wr (w2.alloc (.cells #[.int .i64 width, .int .i64 0, .int .i64 0, .slice none 0 0, .map (some wr.heap.size), .int .i64 en, .map (some hb), .slice aw nw cw, .int .i64 (k : Int), .int .i64 0, .int .i64 0, .slice none 0 0] 125)) := (hkq.trans hk2).alloc _
      have hPW := hP.grow hkW
      have c9 : (w2.alloc (.cells #[.int .i64 width, .int .i64 0, .int .i64 0, .slice none 0 0, .map (some wr.heap.size), .int .i64 en, .map (some hb), .slice aw nw cw, .int .i64 (k : Int), .int .i64 0, .int .i64 0, .slice none 0 0] 125)).cell? ⟨w.heap.size + 1, k, none⟩ = some (.pointer none) := by
        rw [hPW.arr.cell, List.getElem?_toArray, List.getElem?_append_right (by simp [Hlen.out]), List.length_map, Hlen.out, Nat.sub_self, List.getElem?_replicate, if_pos (by omega)]
      have f9 : (w2.alloc (.cells #[.int .i64 width, .int .i64 0, .int .i64 0, .slice none 0 0, .map (some wr.heap.size), .int .i64 en, .map (some hb), .slice aw nw cw, .int .i64 (k : Int), .int .i64 0, .int .i64 0, .slice none 0 0] 125)).frozen? ⟨w.heap.size + 1, k, none⟩ = false := hPW.arr.frozen k
      have hk3 : KeptF (fun i => i = w.heap.size + 1) (w2.alloc (.cells #[.int .i64 width, .int .i64 0, .int .i64 0, .slice none 0 0, .map (some wr.heap.size), .int .i64 en, .map (some hb), .slice aw nw cw, .int .i64 (k : Int), .int .i64 0, .int .i64 0, .slice none 0 0] 125)) ((w2.alloc (.cells #[.int .i64 width, .int .i64 0, .int .i64 0, .slice none 0 0, .map (some wr.heap.size), .int .i64 en, .map (some hb), .slice aw nw cw, .int .i64 (k : Int), .int .i64 0, .int .i64 0, .slice none 0 0] 125)).setCell ⟨w.heap.size + 1, k, none⟩ (.pointer (some ⟨w2.heap.size, 0, none⟩))) := (KeptF.refl (fun i => i = w.heap.size + 1) _).setCell (p := ⟨w.heap.size + 1, k, none⟩) (.inl rfl) _
      have hSc := hSq.keep hk2 (fun e => e)
      have hSp := hSc.keep ((KeptF.refl (fun _ => False) w2).alloc (.cells #[.int .i64 width, .int .i64 0, .int .i64 0, .slice none 0 0, .map (some wr.heap.size), .int .i64 en, .map (some hb), .slice aw nw cw, .int .i64 (k : Int), .int .i64 0, .int .i64 0, .slice none 0 0] 125)) (fun e => e)
      have hSe := hSp.keep hk3 (by omega)
      clear hcl
      go_wp2_with fail
      refine hK.out _ _ ?_ (fun hHeld => ?_)
      · (try dsimp only)
        assumption
      clear hK K
      try simp only [Act.put, List.setIfInBounds_toArray, List.set_cons_zero, List.set_cons_succ]
      refine wpAnyH_ready (rs := [4]) (by kernel_rfl) (by simp) ?_
      refine consL rfl (fun K hK => ?_) AllReadyH.nil
      go_simp
      refine hK.out _ _ ?_ (fun hHeld => ?_)
      · (try dsimp only)
        assumption
      clear hK K
      try simp only [Act.put, List.setIfInBounds_toArray, List.set_cons_zero, List.set_cons_succ]
      refine takeL 10 (v := ?_) rfl (by kernel_rfl) (by kernel_rfl) (by kernel_rfl) (fun _ _ _ h => h) (by rfl) ?_ (by assumption) ?_
      rotate_left
      · intro w hSw
        (try simp only [MC6] at hSw)
        go_simp
        all_goals with_reducible rfl
      try simp only [Act.put, List.setIfInBounds_toArray, List.set_cons_zero, List.set_cons_succ]
      refine wpAnyH_ready (rs := [11]) (by kernel_rfl) (by simp) ?_
      refine consL rfl (fun K hK => ?_) AllReadyH.nil
      go_simp
      refine hK.out _ _ ?_ (fun hHeld => ?_)
      · (try dsimp only)
        assumption
      clear hK K
      try simp only [Act.put, List.setIfInBounds_toArray, List.set_cons_zero, List.set_cons_succ]
      refine takeL 12 (v := ?_) rfl (by kernel_rfl) (by kernel_rfl) (by kernel_rfl) (fun _ _ _ h => h) (by rfl) ?_ (by assumption) ?_
      rotate_left
      · intro w hSw
        (try simp only [MC6] at hSw)
        go_simp
        all_goals with_reducible rfl
      try simp only [Act.put, List.setIfInBounds_toArray, List.set_cons_zero, List.set_cons_succ]
      refine wpAnyH_ready (rs := [13]) (by kernel_rfl) (by simp) ?_
      refine consL rfl (fun K hK => ?_) AllReadyH.nil
      go_simp
      refine hK.out _ _ ?_ (fun hHeld => ?_)
      · (try dsimp only)
        assumption
      clear hK K
      try simp only [Act.put, List.setIfInBounds_toArray, List.set_cons_zero, List.set_cons_succ]
      refine wpAnyH_done (by kernel_rfl) ?_ _
      rotate_left 1
      all_goals
        go_wp2
        go_roundw
        case rel =>
          have hne : w2.heap.size ≠ w.heap.size + 1 := by omega
          have hPA : PAt ((w2.alloc (.cells #[.int .i64 width, .int .i64 0, .int .i64 0, .slice none 0 0, .map (some wr.heap.size), .int .i64 en, .map (some hb), .slice aw nw cw, .int .i64 (k : Int), .int .i64 0, .int .i64 0, .slice none 0 0] 125)).setCell ⟨w.heap.size + 1, k, none⟩ (.pointer (some ⟨w2.heap.size, 0, none⟩))) (w.heap.size + 1) (⟨w2.heap.size, wr.heap.size, .slice none 0 0, 0, [], width, 0, en, hb, hear0 m (k : Int) m.links.length, .slice aw nw cw, ways0 m (k : Int) m.links.length, (k : Int), 0, 0, .slice none 0 0, []⟩ : Pr) := by
            refine ⟨?_, fun y hy => by simp at hy, hw1, hw2, Nat.le_refl _, Nat.le_refl _, Own.nil _ _ _, fun g hg => by (cases hg), ?_, ?_, ?_, hwh, ?_⟩
            · refine QCore.empty _ (w.heap.size + 1) w2.heap.size wr.heap.size width 125 #[.int .i64 en, .map (some hb), .slice aw nw cw, .int .i64 (k : Int), .int .i64 0, .int .i64 0, .slice none 0 0] hBk (by omega) (by omega) ?_ ?_
              · rw [hk3.block _ (by simp; omega) (by omega)]
                exact (Below.heap_alloc _ _ _ (by omega)).trans hmm2
              · exact (blk_newP rfl).keep hk3 hne
            · exact (hmp.keep ((KeptF.refl (fun _ => False) w2).alloc _) (fun e => e)).keep hk3 (by omega)
            · show w.heap.size + 1 ≤ hb
              omega
            · exact ((hO.mono (show w.heap.size + 1 ≤ wr.heap.size + 2 by omega)).keep ((KeptF.refl (fun _ => False) w2).alloc _) (fun _ _ e => e)).keep hk3 (fun g hg e => by have := (hO.lt hg).1; omega)
            · intro g hg
              have hgl : wr.heap.size + 2 ≤ g ∧ g < w2.heap.size := by
                rcases hg with h1 | h1
                · subst h1; exact ⟨hhb, hmp.lt⟩
                · exact hO.lt h1
              refine ⟨?_, fun e => by cases e⟩
              rintro (h1 | h1 | h1 | ⟨y, hy, _⟩)
              · simp only at h1; omega
              · simp only at h1; omega
              · cases h1
              · simp at hy
          have hPF : ∀ i, PF (⟨w2.heap.size, wr.heap.size, .slice none 0 0, 0, [], width, 0, en, hb, hear0 m (k : Int) m.links.length, .slice aw nw cw, ways0 m (k : Int) m.links.length, (k : Int), 0, 0, .slice none 0 0, []⟩ : Pr) i → wr.heap.size ≤ i := by
            rintro i ((h1 | h1 | h1 | ⟨y, hy, _⟩) | h1 | h1 | h1)
            · simp only at h1; omega
            · simp only at h1; omega
            · cases h1
            · simp at hy
            · cases h1
            · have h1 : i = hb := h1
              omega
            · have := (hO.lt h1).1
              omega
          have hset := hPW.arr.set k (.pointer (some ⟨w2.heap.size, 0, none⟩))
          refine ⟨k + 1, ps ++ [(⟨w2.heap.size, wr.heap.size, .slice none 0 0, 0, [], width, 0, en, hb, hear0 m (k : Int) m.links.length, .slice aw nw cw, ways0 m (k : Int) m.links.length, (k : Int), 0, 0, .slice none 0 0, []⟩ : Pr)], by go_num, hlt, by rw [List.length_append, Hlen.out]; rfl, ?_, ?_, ?_⟩
          · refine hP.snoc (by rw [Hlen.out]; exact hlt) ((hkW.weaken (fun _ _ e => e.elim)).trans hk3) ?_ hPA hPF
            rw [Hlen.out]
            rw [Hlen.out] at hset
            exact hset
          · intro i p hp
            by_cases hi : i < ps.length
            · rw [List.getElem?_append_left hi] at hp; exact hfr i p hp
            · have h1 := get_lt hp
              rw [List.length_append, List.length_singleton] at h1
              have e : i = ps.length := by omega
              rw [e, List.getElem?_append_right (Nat.le_refl _), Nat.sub_self] at hp
              simp at hp
              subst hp
              rw [Hlen.out] at e
              subst e
              exact ⟨⟨rfl, rfl, rfl, rfl, rfl, rfl⟩, ⟨rfl, rfl, rfl, rfl⟩⟩
          · refine hbl.trans (KeptF.below ((hkW.weaken (fun _ _ e => e.elim)).trans hk3) hBk (fun i hi => ?_))
            omega
        case measure => simp [intOf]; omega
    · have hke : k = n := by omega
      subst hke
      have hS := sim_fresh hlen (fun i p hp => (hfr i p hp).1)
      have hC0 : ∀ (i : Nat) (p : Pr), ps[i]? = some p → Clock0 m en i p := fun i p hp => (hfr i p hp).2
      have hpu : ∀ p ∈ ps, p.pushed ≤ 0 := fun p hp => by
        obtain ⟨i, hi⟩ := List.getElem?_of_mem hp
        rw [(hfr i p hi).1.2.2.2.2.1]; exact Nat.le_refl _
      have m5 : wr.cell? ⟨w.heap.size, 5, none⟩ = some (.slice ao2 m.starts.length cap2) := (hbl.cell (p := ⟨w.heap.size, 5, none⟩) (Nat.lt_succ_self _)).trans (hmb.cell 5)
      clear hfr hlen
      go_wp2
      clear m5
      go_loopw [34] (fun s34 wr => ∃ (j : Nat) (ps : List Pr), s34 = .int .i64 j ∧ j ≤ m.starts.length ∧ Procs wr (w.heap.size + 1) (w.heap.size + 1) k ps ∧ Sim k ((c0 m).wait.take j) (List.replicate k 0) (List.replicate k 0) (List.replicate k []) ps ∧ (∀ p ∈ ps, p.pushed ≤ j) ∧ Below (w.heap.size + 1) W0 wr ∧ (∀ (i : Nat) (p : Pr), ps[i]? = some p → Clock0 m en i p)) (fun s34 _ => m.starts.length - (intOf s34).toNat)
      case atStart => exact ⟨0, ps, rfl, Nat.zero_le _, hP, by rw [List.take_zero]; exact hS, hpu, hbl, hC0⟩
      case round =>
        clear hP hS hpu hbl hBk hlt hk Hlen hC0
        obtain ⟨j, ps, rfl, hj, hP, hS, hpu, hbl, hC⟩ := hrel
        have hbw : Below w.heap.size w wr := hB0.trans (hbl.mono (by omega))
        have hBk : w.heap.size + 1 ≤ wr.heap.size := by have := hbl.size; rw [Hz.out] at this; exact this
        by_cases hlt : j < m.starts.length
        · obtain ⟨s, hs⟩ := get_of_lt hlt
          obtain ⟨b, off, hao, hbB, hc⟩ := RowsAt.at_ (hM.keep (hbw.mono hBm)).starts hs
          subst hao
          have x0 := hc 0 (.int .i64 s.p) rfl
          have x1 := hc 1 (.int .i64 s.t) rfl
          have x2 := hc 2 (.int .i64 s.l) rfl
          simp only [Nat.add_zero] at x0
          have hst := hm.start hs
          have Hs : Hid (m.starts[j]? = some s) := hs
          have hpk : s.p < (k : Int) := by have := Hnp.out; unfold np at this; omega
          obtain ⟨p, hp⟩ := get_of_lt (d := ps) (k := s.p.toNat) (by rw [hS.len]; omega)
          have Hp : Hid (ps[s.p.toNat]? = some p) := hp
          have hsb : Blk (wr.alloc (.cells #[.int .i64 s.p, .int .i64 s.t, .int .i64 s.l] 90)) wr.heap.size #[.int .i64 s.p, .int .i64 s.t, .int .i64 s.l] 90 := heap_alloc_new wr _
          have hPs := hP.grow ((KeptF.refl (fun _ => False) wr).alloc (.cells #[.int .i64 s.p, .int .i64 s.t, .int .i64 s.l] 90))
          have hPd := hPs.grow (KeptF.drew (KeptF.refl (fun _ => False) _))
          have cp := hP.cell hp
          have hlp : w.heap.size + 1 < wr.heap.size := hP.arr.lt
          have hppu := hpu p (List.mem_of_getElem? hp)
          have hpush := pPush _ (w.heap.size + 1) p ⟨s.t, -1, (j : Int), s.l⟩ (hPd.each p (List.mem_of_getElem? hp)) (by simp; omega) (by unfold InInt; simp only; omega) (by omega)
          have hlb : b < wr.heap.size := block_lt_of_cell x0
          have hlq : p.qb < wr.heap.size := (hP.each p (List.mem_of_getElem? hp)).core.blk.lt
          clear hs hc hp
          go_wp2
          refine still_tail' 13 (by kernel_rfl) (by kernel_rfl) ?_
          simp only [List.take_succ_cons, List.take_zero, List.drop_succ_cons, List.drop_zero]
          repeat still_step
          refine wpStill_nil ?_
          go_wp2_with fail
          refine hpush.mono ?_
          rintro e1 w2 ⟨rfl, p', hT, hpp, hits⟩
          clear hpush x0 x1 x2 cp
          go_wp2
          go_roundw
          case rel =>
            have hW : (c0 m).wait.take (j + 1) = (c0 m).wait.take j ++ [initEv j s] := by
              have h2 : (c0 m).wait[j]? = some (initEv j s) := by
                show (m.starts.mapIdx initEv)[j]? = _
                rw [List.getElem?_mapIdx, Hs.out]; rfl
              rw [List.take_add_one, h2]; rfl
            refine ⟨j + 1, ps.set s.p.toNat p', by go_num, hlt, hPd.turned Hp.out hT, ?_, ?_, ?_, ?_⟩
            · rw [hW]
              exact hS.push Hp.out (show s.p = ((s.p.toNat : Nat) : Int) by omega) hT.num hT.st hT.sent hT.dn hits
            · intro q hq
              obtain ⟨i, hi⟩ := List.getElem?_of_mem hq
              rcases set_get hi with ⟨_, e2⟩ | ⟨_, e2⟩
              · rw [e2, hpp]; omega
              · have := hpu q (List.mem_of_getElem? e2); omega
            · have hk1 : Below (w.heap.size + 1) wr (wr.alloc (.cells #[.int .i64 s.p, .int .i64 s.t, .int .i64 s.l] 90)).drew := KeptF.below (F := fun _ => False) (((KeptF.refl _ wr).alloc _).drew) hBk (fun i hi => hi.elim)
              exact hbl.trans (hk1.trans (KeptF.below hT.kept (by simp; omega) (fun i hi => ((hPd.each p (List.mem_of_getElem? Hp.out)).lt hi).1)))
            · intro i q hq
              rcases set_get hq with ⟨e1, e2⟩ | ⟨_, e2⟩
              · have h1 := hC _ p Hp.out
                subst e1 e2
                refine ⟨hT.en.trans h1.en, hT.hr.trans h1.hr, hT.ws.trans h1.ws, ?_⟩
                rw [hpp, hits.length_eq, h1.pu]; rfl
              · exact hC i q e2
          case measure => simp [intOf]; omega
        · have hje : j = m.starts.length := by omega
          subst hje
          go_wp2
          go_ret
          refine ⟨w.heap.size + 1, ps, rfl, hP, ?_, fun p hp => by have := hpu p hp; omega, hbw, hC⟩
          have hl : (c0 m).wait.take m.starts.length = (c0 m).wait := List.take_of_length_le (by simp [c0])
          rw [hl] at hS
          have hst : (c0 m).states = List.replicate k 0 := by show List.replicate (np m) 0 = _; rw [Hnp.out]
          have hsq : (c0 m).seqs = List.replicate k 0 := by show List.replicate (np m) 0 = _; rw [Hnp.out]
          have hdn : (c0 m).done = List.replicate k [] := by show List.replicate (np m) [] = _; rw [Hnp.out]
          rw [hst, hsq, hdn]
          exact hS

end Go.Proofs.Ytkobkilfbbalaaa

namespace Go.Proofs.Ytkobkilfbbalaaa
open Go.RowKit Go.Sort Go.Maps

/-- which event is next, told by the processes -/
theorem next_of {m : Mdl} {c : Cs} {ps : List Pr} (hI : Inv m c) (hS : Sim (np m) c.wait c.states c.seqs c.done ps) {p : Pr} (hU : Upto ps (np m) p) :
    (∀ t, p.top = some t → (∀ e ∈ c.wait, ¬ e.it.lt t)) ∧ (p.top = none → c.wait = []) := by
  have key : ∀ e ∈ c.wait, ∃ t, p.top = some t ∧ ¬ e.it.lt t := by
    intro e he
    obtain ⟨h0, h1, _⟩ := hI.ev e he
    obtain ⟨q, hq⟩ := get_of_lt (d := ps) (k := e.p.toNat) (by rw [hS.len]; unfold np; omega)
    exact hU e.p.toNat q (by unfold np; omega) hq e.it ((hS.items _ q hq).mem_iff.2 (mem_atP.2 ⟨e, he, by omega, rfl⟩))
  refine ⟨fun t ht e he => ?_, fun h0 => ?_⟩
  · obtain ⟨u, hu, hl⟩ := key e he
    rw [ht] at hu; cases hu; exact hl
  · cases hw : c.wait with
    | nil => rfl
    | cons e l =>
      obtain ⟨t, ht, _⟩ := key e (by rw [hw]; simp)
      rw [h0] at ht; cases ht

theorem find_event {m : Mdl} {en : Int} {c : Cs} {ps : List Pr} (hI : Inv m c) (hS : Sim (np m) c.wait c.states c.seqs c.done ps) {i : Nat} {p : Pr} (hp : ps[i]? = some p) (hU : Upto ps (np m) p) {t : It} (ht : p.top = some t) (hti : t ∈ p.its) (hen : t.t < en) :
    ∃ (j : Nat) (e : Ev), c.wait[j]? = some e ∧ e.p = (i : Int) ∧ e.it = t ∧ nx en c.wait = some j := by
  obtain ⟨e, he, hep, hei⟩ := mem_atP.1 ((hS.items i p hp).mem_iff.1 hti)
  obtain ⟨j, hj⟩ := List.getElem?_of_mem he
  refine ⟨j, e, hj, hep, hei, nx_some hI.keys ⟨e, hj, by rw [hei]; exact hen, fun y hy _ => ?_⟩⟩
  rw [hei]
  exact (next_of hI hS hU).1 t ht y hy

set_option maxRecDepth 100000 in
set_option maxHeartbeats 8000000 in
theorem events_any (w : World) (Bm : Nat) (lv rv sv : Value) (m : Mdl) (R : List RuleV) (en : Int) (hM : ModelAt w Bm lv rv sv m R) (hBm : Bm ≤ w.heap.size) (hm : Right m) (hen : en ≤ 200) :
    Calls Try.prog 26 #[.agg #[.int .i64 m.procs, .int .i64 m.states, .int .i64 m.loads, lv, rv, sv], .int .i64 en] w fun e w' => ∃ n : Nat, e = .returned (.int .i64 (n : Int)) ∧ Below w.heap.size w w' ∧ ((n ≤ 300 ∧ Few m en) ∨ (n = 301 ∧ ¬ Few m en)) := by
  have hp1 := hm.lim.p1
  have hp2 := hm.lim.p2
  have hnp1 : 1 ≤ np m := by unfold np; omega
  have hnp6 : np m ≤ 6 := by unfold np; omega
  obtain ⟨W0, hW0⟩ : ∃ W0, W0 = w.alloc (.cells #[.int .i64 m.procs, .int .i64 m.states, .int .i64 m.loads, lv, rv, sv] 31) := ⟨_, rfl⟩
  have HW0 : Hid (W0 = w.alloc (.cells #[.int .i64 m.procs, .int .i64 m.states, .int .i64 m.loads, lv, rv, sv] 31)) := hW0
  have hB0 : Below w.heap.size w W0 := by rw [hW0]; exact (Below.refl _ _).alloc (Nat.le_refl _) _
  have hmb : Blk W0 w.heap.size #[.int .i64 m.procs, .int .i64 m.states, .int .i64 m.loads, lv, rv, sv] 31 := by rw [hW0]; exact heap_alloc_new w _
  have hz : W0.heap.size = w.heap.size + 1 := by rw [hW0]; simp
  have Hz : Hid (W0.heap.size = w.heap.size + 1) := hz
  have hnew := newProcs_any W0 Bm lv rv sv m R en (hM.keep (hB0.mono hBm)) (Nat.le_trans hBm hB0.size) hm
  have c0 : W0.cell? ⟨w.heap.size, 0, none⟩ = some (.int .i64 m.procs) := hmb.cell 0
  have c1 : W0.cell? ⟨w.heap.size, 1, none⟩ = some (.int .i64 m.states) := hmb.cell 1
  have c2 : W0.cell? ⟨w.heap.size, 2, none⟩ = some (.int .i64 m.loads) := hmb.cell 2
  have c3 : W0.cell? ⟨w.heap.size, 3, none⟩ = some lv := hmb.cell 3
  have c4 : W0.cell? ⟨w.heap.size, 4, none⟩ = some rv := hmb.cell 4
  have c5 : W0.cell? ⟨w.heap.size, 5, none⟩ = some sv := hmb.cell 5
  clear hW0 hz
  go_enter Try.func26, Try.ntmps26
  go_upto_region 1 with fail
  rw [← HW0.out]
  go_wp2_with fail
  refine hnew.mono ?_
  rintro e1 w1 ⟨pb, ps, rfl, hP, hS, hpu, hb1, -⟩
  rw [Hz.out] at hP
  clear hnew c0 c1 c2 c3 c4 c5
  have hbl1 : Below (w.heap.size + 1) W0 w1 := by rw [Hz.out] at hb1; exact hb1
  have hI0 : Inv m (atK m en 0) := inv_c0 hm
  go_wp2
  go_loopw [6] (fun s7 wr => ∃ (k : Nat) (ps : List Pr), s7 = .int .i64 k ∧ k ≤ 301 ∧ Procs wr (w.heap.size + 2) pb (np m) ps ∧ Sim (np m) (atK m en k).wait (atK m en k).states (atK m en k).seqs (atK m en k).done ps ∧ (atK m en k).all = k ∧ Inv m (atK m en k) ∧ Live m en k ∧ (∀ p ∈ ps, p.pushed ≤ 12 + 4 * k) ∧ Below (w.heap.size + 1) W0 wr) (fun s7 _ => 301 - (intOf s7).toNat)
  case atStart => exact ⟨0, ps, rfl, by omega, hP, hS, rfl, hI0, fun i hi => by omega, fun p hp => by have := hpu p hp; omega, hbl1⟩
  case round =>
    clear hP hS hpu hb1 hbl1 hI0
    obtain ⟨k, ps, rfl, hk, hP, hS, hall, hI, hLive, hpu, hbl⟩ := hrel
    have Hall : Hid ((atK m en k).all = k) := hall
    clear hall
    have hbw : Below w.heap.size w wr := hB0.trans (hbl.mono (by omega))
    by_cases hle : k ≤ 300
    · have hlp := leastProc_any wr (w.heap.size + 2) pb (np m) ps hP hS.len hnp1 hnp6
      go_wp2_with fail
      refine hlp.mono ?_
      rintro e2 w1 ⟨i, p, rfl, hpi, hU, g1⟩
      clear hlp
      have hP1 := hP.grow (kept_of_below' g1)
      have hPp := hP1.each p (List.mem_of_getElem? hpi)
      have hlq := hPp.core.blk.lt
      have hbB : w.heap.size + 2 ≤ wr.heap.size := Nat.le_trans hP.low (Nat.le_of_lt hP.arr.lt)
      cases ht : p.top with
      | none =>
        have hnx0 : nx en (atK m en k).wait = none := nx_none (fun e he => by rw [(next_of hI hS hU).2 ht] at he; simp at he)
        have hFew : Few m en := ⟨k, hle, hnx0⟩
        clear hnx0
        have hleast := pLeast_none w1 (w.heap.size + 2) p hPp ht
        go_wp2_with fail
        refine hleast.mono ?_
        rintro e3 w2 ⟨rfl, g2⟩
        clear hleast
        go_wp2
        go_ret
        refine ⟨k, rfl, ?_, .inl ⟨hle, hFew⟩⟩
        exact (hbw.trans ((g1.trans (g2.mono g1.size)).mono hbw.size)).alloc (Nat.le_trans hbw.size (Nat.le_trans g1.size g2.size)) _
      | some t =>
        have hleast := pLeast_some w1 (w.heap.size + 2) p t hPp ht
        have htl := hPp.top_least ht
        go_wp2_with fail
        refine hleast.mono ?_
        rintro e3 w2 ⟨rfl, g2⟩
        clear hleast
        have g12 : Below wr.heap.size wr w2 := g1.trans (g2.mono g1.size)
        have hbx : Blk (w2.alloc (.cells #[.int .i64 t.t, .int .i64 t.f, .int .i64 t.s, .int .i64 t.l] 102)) w2.heap.size #[.int .i64 t.t, .int .i64 t.f, .int .i64 t.s, .int .i64 t.l] 102 := heap_alloc_new w2 _
        by_cases hte : t.t < en
        · obtain ⟨j, e, hj, hep, hei, hnx⟩ := find_event hI hS hpi hU ht htl.1 hte
          obtain ⟨hev0, hev1, het0, het1, -⟩ := hI.ev e (List.mem_of_getElem? hj)
          have hin : i < np m := by rw [← hS.len]; exact get_lt hpi
          have hei2 : e.p.toNat = i := by omega
          have hst := hS.st i p hpi
          have hsq := hS.sent i p hpi
          have hnum := hS.num i p hpi
          have hsqb := hI.sq _ _ hsq
          have hdn := hS.dn i p hpi
          have hdlb := hI.dl _ _ hdn
          rw [Hall.out] at hdlb
          rw [Hall.out] at hsqb
          have hppu := hpu p (List.mem_of_getElem? hpi)
          have hInt : ∀ a ∈ p.its, InInt a.t := fun a ha => by
            obtain ⟨e', he', _, hea⟩ := mem_atP.1 ((hS.items i p hpi).mem_iff.1 ha)
            have := hI.ev e' he'
            rw [← hea]; unfold InInt; omega
          obtain ⟨hdd, hds, hdq, cause, hdw⟩ := doEv_out (m := m) (c := atK m en k) (j := j) (e := e) (st := p.st) (sent := p.sent) (dl := p.dn) (by rw [hei2]; exact hst) (by rw [hei2]; exact hsq) (by rw [hei2]; exact hdn)
          have hstep : atK m en (k + 1) = doEv m (atK m en k) j e := stepF_some hnx hj
          rw [hei2] at hdd hds hdq
          have hro := ruleOut_ok hm (num := p.num) (st := p.st) (sent := p.sent) (x := t) (by rw [← hei]; exact het0) (by omega)
          have hpe : e.p = p.num := by rw [hep, hnum]
          rw [hpe, hei] at hdd hds hdq hdw
          obtain ⟨ro, hro_eq⟩ : ∃ ro, ro = ruleOut m p.num p.st p.sent t := ⟨_, rfl⟩
          rw [← hro_eq] at hdd hds hdq hdw hro
          have Hdd : Hid ((atK m en (k + 1)).done = (atK m en k).done.set i (p.dn ++ [⟨t, ro.2.1⟩])) := by show _ = _; rw [hstep]; exact hdd
          have Hds : Hid ((atK m en (k + 1)).states = (atK m en k).states.set i ro.2.1) := by show _ = _; rw [hstep]; exact hds
          have Hdq : Hid ((atK m en (k + 1)).seqs = (atK m en k).seqs.set i ro.2.2) := by show _ = _; rw [hstep]; exact hdq
          have Hdw : Hid ((atK m en (k + 1)).wait = (atK m en k).wait.eraseIdx j ++ ro.1.map (toEv m cause)) := by show _ = _; rw [hstep]; exact hdw
          have Hall2 : Hid ((atK m en (k + 1)).all = k + 1) := by show _ = _; rw [hstep, doEv_all, Hall.out]
          have hI2 : Inv m (atK m en (k + 1)) := by rw [hstep]; exact inv_do hm hI hen hj (by rw [hei]; exact hte)
          have hLive2 : Live m en (k + 1) := fun i hi => by
            by_cases e : i = k
            · subst e; rw [hnx]; simp
            · exact hLive i (by omega)
          have Hro : Hid (ro = ruleOut m p.num p.st p.sent t) := hro_eq
          have Hei : Hid (e.it = t) := hei
          have Hei2 : Hid (e.p = (i : Int)) := hep
          have Hj : Hid ((atK m en k).wait[j]? = some e) := hj
          have Hpi : Hid (ps[i]? = some p) := hpi
          clear hdd hds hdq hdw hstep hro_eq hei hnx hpe hst hsq hj hpi hnum hdn
          -- the world in which the item lies
          have hPA := hP.grow (KeptF.alloc (kept_of_below' g12) (.cells #[.int .i64 t.t, .int .i64 t.f, .int .i64 t.s, .int .i64 t.l] 102))
          have hblA : Below (w.heap.size + 1) W0 (w2.alloc (.cells #[.int .i64 t.t, .int .i64 t.f, .int .i64 t.s, .int .i64 t.l] 102)) := hbl.trans ((g12.mono (by omega)).alloc (Nat.le_trans (by omega) g12.size) _)
          have hzA : w2.heap.size < (w2.alloc (.cells #[.int .i64 t.t, .int .i64 t.f, .int .i64 t.s, .int .i64 t.l] 102)).heap.size := by simp
          have hlA : wr.heap.size ≤ w2.heap.size := g12.size
          have hlq2 : p.qb < w2.heap.size := by have := ((hP.each p (List.mem_of_getElem? Hpi.out)).core.blk.lt); omega
          have hpop := pPop (w2.alloc (.cells #[.int .i64 t.t, .int .i64 t.f, .int .i64 t.s, .int .i64 t.l] 102)) (w.heap.size + 2) p t (hPA.each p (List.mem_of_getElem? Hpi.out)) ht hInt (by omega)
          go_wp2_with fail
          refine hpop.mono ?_
          rintro e4 w3 ⟨rfl, p1, hT, hpp1, hits⟩
          clear hpop
          have hPF : ∀ g, PF p g → g < wr.heap.size := fun g hg => ((hP.each p (List.mem_of_getElem? Hpi.out)).lt hg).2
          have hP3 := hPA.turned Hpi.out hT
          have hS3 := hS.pop Hpi.out Hj.out Hei2.out hT.num hT.st hT.sent hT.dn (by rw [Hei.out]; exact hits)
          have hx3 := hbx.keep hT.kept (fun hf => by have := hPF _ hf; omega)
          have hk3 : Below (w.heap.size + 1) (w2.alloc (.cells #[.int .i64 t.t, .int .i64 t.f, .int .i64 t.s, .int .i64 t.l] 102)) w3 := KeptF.below hT.kept (by omega) (fun i hi => by have := ((hPA.each p (List.mem_of_getElem? Hpi.out)).lt hi).1; omega)
          have hbl3 : Below (w.heap.size + 1) W0 w3 := hblA.trans hk3
          have hbw3 : Below w.heap.size w w3 := hB0.trans (hbl3.mono (by omega))
          have hi3 : (ps.set i p1)[i]? = some p1 := List.getElem?_set_self (get_lt Hpi.out)
          have Hi3 : Hid ((ps.set i p1)[i]? = some p1) := hi3
          have hp1at := hP3.each p1 (List.mem_of_getElem? hi3)
          have hsz3 : w.heap.size + 2 ≤ w3.heap.size := Nat.le_trans hP3.low (Nat.le_of_lt hP3.arr.lt)
          have hdo := pdo_any w3 (w.heap.size + 2) Bm lv rv sv m R p1 t hp1at hm (hM.keep (hbw3.mono hBm)) (by omega) hsz3 (by have := Hei.out; rw [← this]; exact het0) (by have := Hei.out; rw [← this]; exact het1) (by rw [hT.sent]; omega) (by rw [hT.sent]; omega) (by rw [hT.dn]; omega)
          have hroe : ruleOut m p1.num p1.st p1.sent t = ro := by rw [hT.num, hT.st, hT.sent, ← Hro.out]
          rw [hroe, show (Value.pointer (some ⟨p1.qb, 0, none⟩)) = .pointer (some ⟨p.qb, 0, none⟩) by rw [hT.qb]] at hdo
          clear hroe
          have hm3 : Blk w3 w.heap.size #[.int .i64 m.procs, .int .i64 m.states, .int .i64 m.loads, lv, rv, sv] 31 := (hbl3.block _ (Nat.lt_succ_self _)).trans hmb
          have m0 : w3.cell? ⟨w.heap.size, 0, none⟩ = some (.int .i64 m.procs) := hm3.cell 0
          have m1 : w3.cell? ⟨w.heap.size, 1, none⟩ = some (.int .i64 m.states) := hm3.cell 1
          have m2 : w3.cell? ⟨w.heap.size, 2, none⟩ = some (.int .i64 m.loads) := hm3.cell 2
          have m3 : w3.cell? ⟨w.heap.size, 3, none⟩ = some lv := hm3.cell 3
          have m4 : w3.cell? ⟨w.heap.size, 4, none⟩ = some rv := hm3.cell 4
          have m5 : w3.cell? ⟨w.heap.size, 5, none⟩ = some sv := hm3.cell 5
          have t0 : w3.cell? ⟨w2.heap.size, 0, none⟩ = some (.int .i64 t.t) := hx3.cell 0
          have t1 : w3.cell? ⟨w2.heap.size, 1, none⟩ = some (.int .i64 t.f) := hx3.cell 1
          have t2 : w3.cell? ⟨w2.heap.size, 2, none⟩ = some (.int .i64 t.s) := hx3.cell 2
          have t3 : w3.cell? ⟨w2.heap.size, 3, none⟩ = some (.int .i64 t.l) := hx3.cell 3
          go_wp2_with fail
          refine hdo.mono ?_
          rintro e5 w4 ⟨v, rfl, hO, hk4, dv2, hp2, hft, hvp⟩
          clear hdo m0 m1 m2 m3 m4 m5 t0 t1 t2 t3 hi3
          have hP4 := hP3.turn Hi3.out hk4 hp2 rfl hft
          have hS4 := hS3.set (p' := { p1 with st := ro.2.1, sent := ro.2.2, dnv := dv2, dn := p1.dn ++ [⟨t, ro.2.1⟩] }) Hi3.out rfl rfl
          have hbl4 : Below (w.heap.size + 1) W0 w4 := hbl3.trans (KeptF.below hk4 (by omega) (fun i hi => by have := (hp1at.lt hi).1; omega))
          have hpu4 : ∀ q ∈ (ps.set i p1).set i { p1 with st := ro.2.1, sent := ro.2.2, dnv := dv2, dn := p1.dn ++ [⟨t, ro.2.1⟩] }, q.pushed ≤ 12 + 4 * k := fun q hq => by
            obtain ⟨n', hn'⟩ := List.getElem?_of_mem hq
            rcases set_get hn' with ⟨_, e2⟩ | ⟨_, e2⟩
            · rw [e2]; show p1.pushed ≤ _; rw [hpp1]; exact hppu
            · rcases set_get e2 with ⟨_, e3⟩ | ⟨_, e3⟩
              · rw [e3, hpp1]; exact hppu
              · exact hpu q (List.mem_of_getElem? e3)
          have hap4 : ∀ q ∈ (ps.set i p1).set i { p1 with st := ro.2.1, sent := ro.2.2, dnv := dv2, dn := p1.dn ++ [⟨t, ro.2.1⟩] }, ∀ g, PF q g → v.ownBlock ≠ some g := fun q hq g hg e' => by
            have h1 := (hO.lt e').1
            obtain ⟨n', hn'⟩ := List.getElem?_of_mem hq
            rcases set_get hn' with ⟨_, e2⟩ | ⟨_, e2⟩
            · subst e2
              exact hvp g e' hg
            · have := ((hP3.each q (List.mem_of_getElem? e2)).lt hg).2; omega
          generalize (ps.set i p1).set i { p1 with st := ro.2.1, sent := ro.2.2, dnv := dv2, dn := p1.dn ++ [⟨t, ro.2.1⟩] } = ps4 at *
          have Hdn1 : Hid (p1.dn = p.dn) := hT.dn
          rw [Hdn1.out] at hS4
          obtain ⟨aov, capv, hvf, hcapv⟩ := hO.form'
          subst hvf
          have hrl := hro.1
          clear hP3 hS3 hx3 hm3 hP hS hPA hbx hp1at hp2 hk4 hT hits hInt hft hvp
          go_wp2
          go_loopw [43] (fun s44 wr => ∃ (l : Nat) (ps : List Pr), s44 = .int .i64 l ∧ l ≤ ro.1.length ∧ Procs wr (w.heap.size + 2) pb (np m) ps ∧ Sim (np m) ((atK m en k).wait.eraseIdx j ++ (ro.1.map (toEv m cause)).take l) ((atK m en k).states.set i ro.2.1) ((atK m en k).seqs.set i ro.2.2) ((atK m en k).done.set i (p.dn ++ [⟨t, ro.2.1⟩])) ps ∧ (∀ p ∈ ps, p.pushed ≤ 12 + 4 * k + l) ∧ (∀ q ∈ ps, ∀ g, PF q g → (Value.slice aov ro.1.length capv).ownBlock ≠ some g) ∧ Own emE wr w3.heap.size (.slice aov ro.1.length capv) ro.1 ∧ Below (w.heap.size + 1) W0 wr) (fun s44 _ => ro.1.length - (intOf s44).toNat)
          case atStart => exact ⟨0, ps4, rfl, Nat.zero_le _, hP4, by rw [List.take_zero, List.append_nil]; exact hS4, fun p hp => by have := hpu4 p hp; omega, hap4, hO, hbl4⟩
          case round =>
            clear hP4 hS4 hpu4 hap4 hO hbl4
            obtain ⟨l, ps5, rfl, hl, hP, hS, hpu5, hap, hO, hbl5⟩ := hrel
            have hbw5 : Below w.heap.size w wr := hB0.trans (hbl5.mono (by omega))
            have hsz5 : w.heap.size + 2 ≤ wr.heap.size := Nat.le_trans hP.low (Nat.le_of_lt hP.arr.lt)
            by_cases hlt : l < ro.1.length
            · obtain ⟨x, hx⟩ := get_of_lt hlt
              obtain ⟨⟨hxt0, hxt1⟩, hxk0, hxk1, y, hy, hy0, hy1⟩ := hro.2 x (List.mem_of_getElem? hx)
              obtain ⟨g, cap', hg, _⟩ := Own.at_ hO hx
              simp only [Value.slice.injEq] at hg
              obtain ⟨rfl, -, -⟩ := hg
              have a0 := hO.cell hx (k := 0) (u := .int .i64 x.it.t) rfl
              have a1 := hO.cell hx (k := 1) (u := .int .i64 x.it.f) rfl
              have a2 := hO.cell hx (k := 2) (u := .int .i64 x.it.s) rfl
              have a3 := hO.cell hx (k := 3) (u := .int .i64 x.it.l) rfl
              have a4 := hO.cell hx (k := 4) (u := .int .i64 0) rfl
              have a5 := hO.cell hx (k := 5) (u := .int .i64 x.k) rfl
              have a0 : wr.cell? ⟨g, l * 6, none⟩ = some (.int .i64 x.it.t) := a0
              have a1 : wr.cell? ⟨g, l * 6 + 1, none⟩ = some (.int .i64 x.it.f) := a1
              have a2 : wr.cell? ⟨g, l * 6 + 2, none⟩ = some (.int .i64 x.it.s) := a2
              have a3 : wr.cell? ⟨g, l * 6 + 3, none⟩ = some (.int .i64 x.it.l) := a3
              have a4 : wr.cell? ⟨g, l * 6 + 4, none⟩ = some (.int .i64 0) := a4
              have a5 : wr.cell? ⟨g, l * 6 + 5, none⟩ = some (.int .i64 x.k) := a5
              obtain ⟨aol, capl, hlv, hcapl⟩ := RowsAt.form hM.links
              subst hlv
              obtain ⟨lb, lo, hao, hlbB, hlc⟩ := RowsAt.at_ (hM.keep (hbw5.mono hBm)).links hy
              subst hao
              have y1 := hlc 1 (.int .i64 y.t) rfl
              have m3 : wr.cell? ⟨w.heap.size, 3, none⟩ = some (.slice (some ⟨lb, lo, none⟩) m.links.length capl) := (hbl5.cell (p := ⟨w.heap.size, 3, none⟩) (Nat.lt_succ_self _)).trans (hmb.cell 3)
              obtain ⟨q, hq⟩ := get_of_lt (d := ps5) (k := y.t.toNat) (by rw [hS.len]; unfold np; omega)
              have cq := hP.cell hq
              have hlpb := hP.arr.lt
              have hlq := (hP.each q (List.mem_of_getElem? hq)).core.blk.lt
              have hyn : y.t < (np m : Int) := by unfold np; omega
              have hqpu := hpu5 q (List.mem_of_getElem? hq)
              have hPd := (hP.grow ((KeptF.refl (fun _ => False) wr).alloc (.cells #[.int .i64 x.it.t, .int .i64 x.it.f, .int .i64 x.it.s, .int .i64 x.it.l, .int .i64 0, .int .i64 x.k] 141))).grow (KeptF.drew (KeptF.refl (fun _ => False) _))
              have hpush := pPush _ (w.heap.size + 2) q x.it (hPd.each q (List.mem_of_getElem? hq)) (by simp; omega) (by unfold InInt; omega) (by omega)
              have hlg : g < wr.heap.size := block_lt_of_cell a0
              have hllb : lb < wr.heap.size := block_lt_of_cell y1
              have hlw : w.heap.size < wr.heap.size := by omega
              have Hx : Hid (ro.1[l]? = some x) := hx
              have Hy : Hid (m.links[x.k.toNat]? = some y) := hy
              have Hq : Hid (ps5[y.t.toNat]? = some q) := hq
              clear hx hy hq hlc
              go_wp2
              refine still_tail' 14 (by kernel_rfl) (by kernel_rfl) ?_
              simp only [List.take_succ_cons, List.take_zero, List.drop_succ_cons, List.drop_zero]
              repeat still_step
              refine wpStill_nil ?_
              go_wp2_with fail
              refine hpush.mono ?_
              rintro e6 w6 ⟨rfl, q', hT, hpp, hits⟩
              clear hpush a0 a1 a2 a3 a4 a5 y1 m3 cq
              go_wp2
              go_roundw
              case rel =>
                have hkd : KeptF (fun _ => False) wr (wr.alloc (.cells #[.int .i64 x.it.t, .int .i64 x.it.f, .int .i64 x.it.s, .int .i64 x.it.l, .int .i64 0, .int .i64 x.k] 141)).drew := ((KeptF.refl _ wr).alloc _).drew
                have hqP := hPd.each q (List.mem_of_getElem? Hq.out)
                have hW : (ro.1.map (toEv m cause)).take (l + 1) = (ro.1.map (toEv m cause)).take l ++ [toEv m cause x] := by
                  have h2 : (ro.1.map (toEv m cause))[l]? = some (toEv m cause x) := by rw [List.getElem?_map, Hx.out]; rfl
                  rw [List.take_add_one, h2]; rfl
                refine ⟨l + 1, ps5.set y.t.toNat q', by go_num, hlt, hPd.turned Hq.out hT, ?_, ?_, ?_, ?_, ?_⟩
                · rw [hW, ← List.append_assoc]
                  refine hS.push Hq.out ?_ hT.num hT.st hT.sent hT.dn hits
                  show linkTo m x.k = _
                  rw [linkTo_at Hy.out]; omega
                · intro z hz
                  obtain ⟨n', hn'⟩ := List.getElem?_of_mem hz
                  rcases set_get hn' with ⟨_, e2⟩ | ⟨_, e2⟩
                  · rw [e2, hpp]; omega
                  · have := hpu5 z (List.mem_of_getElem? e2); omega
                · intro z hz g' hg' e'
                  obtain ⟨n', hn'⟩ := List.getElem?_of_mem hz
                  rcases set_get hn' with ⟨_, e2⟩ | ⟨_, e2⟩
                  · subst e2
                    rcases hT.foot g' hg' with h1 | h1
                    · exact hap q (List.mem_of_getElem? Hq.out) g' h1 e'
                    · have h2 := (hO.lt e').2
                      simp at h1; omega
                  · exact hap z (List.mem_of_getElem? e2) g' hg' e'
                · exact (hO.keep hkd (fun _ _ e => e)).keep hT.kept (fun g' hg' hf => hap q (List.mem_of_getElem? Hq.out) g' hf hg')
                · have hk1 : Below (w.heap.size + 1) wr (wr.alloc (.cells #[.int .i64 x.it.t, .int .i64 x.it.f, .int .i64 x.it.s, .int .i64 x.it.l, .int .i64 0, .int .i64 x.k] 141)).drew := KeptF.below hkd (by omega) (fun i hi => hi.elim)
                  exact hbl5.trans (hk1.trans (KeptF.below hT.kept (by simp; omega) (fun i hi => by have := (hqP.lt hi).1; omega)))
              case measure => simp [intOf]; omega
            · have hle2 : l = ro.1.length := by omega
              have HS : Hid (Sim (np m) (atK m en (k + 1)).wait (atK m en (k + 1)).states (atK m en (k + 1)).seqs (atK m en (k + 1)).done ps5) := by
                show Sim _ _ _ _ _ _
                rw [Hdw.out, Hds.out, Hdq.out, Hdd.out]
                rw [hle2, List.take_of_length_le (by simp)] at hS
                exact hS
              go_wp2
              go_roundw
              case rel => exact ⟨k + 1, ps5, by go_num, by omega, hP, HS.out, Hall2.out, hI2, hLive2, fun p hp => by have := hpu5 p hp; omega, hbl5⟩
              case measure => simp [intOf]; omega
        · have hnx0 : nx en (atK m en k).wait = none := nx_none (fun e he => by
            have h1 := (next_of hI hS hU).1 t ht e he
            unfold It.lt at h1; omega)
          have hFew : Few m en := ⟨k, hle, hnx0⟩
          clear hnx0
          go_wp2
          go_ret
          refine ⟨k, rfl, ?_, .inl ⟨hle, hFew⟩⟩
          exact (hbw.trans (g12.mono hbw.size)).alloc (Nat.le_trans hbw.size g12.size) _
    · have hke : k = 301 := by omega
      subst hke
      go_wp2
      go_ret
      exact ⟨301, rfl, hbw, .inr ⟨rfl, few_not hLive⟩⟩

end Go.Proofs.Ytkobkilfbbalaaa

namespace Go.Proofs.Ytkobkilfbbalaaa
open Go.RowKit Go.Sort Go.Maps

def fewB (m : Mdl) (en : Int) : Bool := (List.range 301).any (fun k => (nx en (atK m en k).wait).isNone)
theorem fewB_iff {m : Mdl} {en : Int} : fewB m en = true ↔ Few m en := by
  simp only [fewB, List.any_eq_true, List.mem_range, Option.isNone_iff_eq_none, Few]
  constructor
  · rintro ⟨k, h1, h2⟩; exact ⟨k, by omega, h2⟩
  · rintro ⟨k, h1, h2⟩; exact ⟨k, by omega, h2⟩

/-- what P3 asks: the error and its number -/
def answer (m : Mdl) (en : Int) : Int × Int := if valid m en = (0, 0) then (if fewB m en = true then (0, 0) else (6, 0)) else valid m en

theorem valid_zero {m : Mdl} {en : Int} (h : (valid m en).1 = 0) : valid m en = (0, 0) := by
  unfold valid at h ⊢
  split <;> rename_i h1
  · rw [if_pos h1] at h
    split <;> rename_i h2
    · rw [if_pos h2] at h; cases h
    · rw [if_neg h2] at h
      split <;> rename_i h3
      · rw [if_pos h3] at h; cases h
      · rw [if_neg h3] at h
        split <;> rename_i h4
        · rw [if_pos h4] at h; cases h
        · rw [if_neg h4] at h
          split <;> rename_i h5
          · rfl
          · rw [if_neg h5] at h; cases h
  · rw [if_neg h1] at h; cases h

set_option maxRecDepth 100000 in
set_option maxHeartbeats 4000000 in
theorem refCheck_any (m : Mdl) (lv rv sv : Value) (R : List RuleV) (B : Nat) (en : Int) (w : World) (h : ModelAt w B lv rv sv m R) (hB : B ≤ w.heap.size) (hne : ∀ r ∈ m.rules, r.es.length ≤ 5864062014634) :
    Calls Try.prog 12 #[.agg #[.int .i64 m.procs, .int .i64 m.states, .int .i64 m.loads, lv, rv, sv], .int .i64 en] w fun e w' => ∃ pv : Value, e = .returned (.tuple #[pv, .int .i64 (answer m en).1, .int .i64 (answer m en).2]) ∧ Below w.heap.size w w' ∧
      (answer m en = (0, 0) → ∃ B' cb k wv sb qb db kb D C, pv = .pointer (some ⟨cb, 0, none⟩) ∧ w.heap.size ≤ B' ∧ k ≤ 300 ∧ nx en (atK m en k).wait = none ∧ CAt w' B' cb lv rv sv m wv sb qb db kb D C (atK m en k)) := by
  have hB0 : Below w.heap.size w (w.alloc (.cells #[.int .i64 m.procs, .int .i64 m.states, .int .i64 m.loads, lv, rv, sv] 26)) := (Below.refl _ _).alloc (Nat.le_refl _) _
  have hmb : Blk (w.alloc (.cells #[.int .i64 m.procs, .int .i64 m.states, .int .i64 m.loads, lv, rv, sv] 26)) w.heap.size #[.int .i64 m.procs, .int .i64 m.states, .int .i64 m.loads, lv, rv, sv] 26 := heap_alloc_new w _
  have hval := refValid_any m lv rv sv R B en (w.alloc (.cells #[.int .i64 m.procs, .int .i64 m.states, .int .i64 m.loads, lv, rv, sv] 26)) (h.keep (hB0.mono hB)) (Nat.le_trans hB hB0.size) hne
  go_enter Try.func12, Try.ntmps12
  go_wp2_with fail
  refine hval.mono ?_
  rintro e1 w1 ⟨rfl, hb1⟩
  clear hval
  have hb01 : Below w.heap.size w w1 := hB0.trans (hb1.mono hB0.size)
  have hm1 : Blk w1 w.heap.size #[.int .i64 m.procs, .int .i64 m.states, .int .i64 m.loads, lv, rv, sv] 26 := hmb.keep (kept_of_below' hb1) (fun e => e)
  by_cases hv : (valid m en).1 = 0
  · have hv2 := valid_zero hv
    have Hv : Hid (valid m en = (0, 0)) := hv2
    rw [hv2]
    obtain ⟨hR, hen0, hen⟩ := right_of_valid hv2
    have hseq := sequel_any m lv rv sv R B en w1 (h.keep (hb01.mono hB)) (Nat.le_trans hB hb01.size) hR hen
    have c0 : w1.cell? ⟨w.heap.size, 0, none⟩ = some (.int .i64 m.procs) := hm1.cell 0
    have c1 : w1.cell? ⟨w.heap.size, 1, none⟩ = some (.int .i64 m.states) := hm1.cell 1
    have c2 : w1.cell? ⟨w.heap.size, 2, none⟩ = some (.int .i64 m.loads) := hm1.cell 2
    have c3 : w1.cell? ⟨w.heap.size, 3, none⟩ = some lv := hm1.cell 3
    have c4 : w1.cell? ⟨w.heap.size, 4, none⟩ = some rv := hm1.cell 4
    have c5 : w1.cell? ⟨w.heap.size, 5, none⟩ = some sv := hm1.cell 5
    clear hv hv2
    go_wp2_with fail
    refine hseq.mono ?_
    rintro e2 w2 ⟨cb, b, rfl, hb2, hcase⟩
    clear hseq
    have hb02 : Below w.heap.size w w2 := hb01.trans (hb2.mono hb01.size)
    rcases hcase with ⟨rfl, k, wv, sb, qb, db, kb, D, C, hk, hnx, hC⟩ | ⟨rfl, hfew⟩
    · have Hans : Hid (answer m en = (0, 0)) := by show _ = _; rw [answer, if_pos Hv.out, if_pos (fewB_iff.2 ⟨k, hk, hnx⟩)]
      go_wp2
      go_ret3
      refine ⟨.pointer (some ⟨cb, 0, none⟩), by rw [Hans.out]; rfl, hb02, fun _ => ⟨_, cb, k, wv, sb, qb, db, kb, D, C, rfl, ?_, hk, hnx, hC⟩⟩
      have := hb01.size; omega
    · have Hans : Hid (answer m en = (6, 0)) := by
        show _ = _
        rw [answer, if_pos Hv.out, if_neg]
        intro hf; exact hfew (fewB_iff.1 hf)
      clear hfew
      go_wp2
      go_ret3
      refine ⟨.pointer none, by rw [Hans.out]; rfl, hb02, fun hx => ?_⟩
      rw [Hans.out] at hx
      cases hx
  · have Hans : Hid (answer m en = valid m en) := by
      show _ = _
      rw [answer, if_neg]
      intro hx; exact hv (by rw [hx])
    have Hnz : Hid (valid m en ≠ (0, 0)) := fun hx => hv (by rw [hx])
    go_wp2
    go_ret3
    refine ⟨.pointer none, by rw [Hans.out]; rfl, hb01, fun hx => ?_⟩
    rw [Hans.out] at hx
    exact absurd hx Hnz.out

end Go.Proofs.Ytkobkilfbbalaaa

namespace Go.Proofs.Ytkobkilfbbalaaa
open Go.RowKit Go.Sort Go.Maps

theorem answer_err {m : Mdl} {en f j : Int} (h : valid m en = (f, j)) (hf : f ≠ 0) : answer m en = (f, j) := by
  rw [answer, if_neg, h]
  intro e
  rw [h] at e
  cases e
  exact hf rfl

set_option maxRecDepth 100000 in
set_option maxHeartbeats 4000000 in
theorem parts_any (m : Mdl) (lv rv sv : Value) (R : List RuleV) (B : Nat) (en : Int) (w : World) (h : ModelAt w B lv rv sv m R) (hB : B ≤ w.heap.size) (hne : ∀ r ∈ m.rules, r.es.length ≤ 5864062014634) :
    Calls Try.prog 25 #[.agg #[.int .i64 m.procs, .int .i64 m.states, .int .i64 m.loads, lv, rv, sv], .int .i64 en] w fun e w' => e = .returned (.tuple #[.int .i64 (valid m en).1, .int .i64 (valid m en).2]) ∧ Below w.heap.size w w' := by
  obtain ⟨W0, hW0⟩ : ∃ W0, W0 = w.alloc (.cells #[.int .i64 m.procs, .int .i64 m.states, .int .i64 m.loads, lv, rv, sv] 31) := ⟨_, rfl⟩
  have HW0 : Hid (W0 = w.alloc (.cells #[.int .i64 m.procs, .int .i64 m.states, .int .i64 m.loads, lv, rv, sv] 31)) := hW0
  have hB0 : Below w.heap.size w W0 := by rw [hW0]; exact (Below.refl _ _).alloc (Nat.le_refl _) _
  have hmb : Blk W0 w.heap.size #[.int .i64 m.procs, .int .i64 m.states, .int .i64 m.loads, lv, rv, sv] 31 := by rw [hW0]; exact heap_alloc_new w _
  have k0 := Gr.cells (v := .int .i64 m.procs) (hmb.cell 0)
  have k1 := Gr.cells (v := .int .i64 m.states) (hmb.cell 1)
  have k2 := Gr.cells (v := .int .i64 m.loads) (hmb.cell 2)
  have k3 := Gr.cells (v := lv) (hmb.cell 3)
  have k4 := Gr.cells (v := rv) (hmb.cell 4)
  have k5 := Gr.cells (v := sv) (hmb.cell 5)
  have hBW : B ≤ W0.heap.size := Nat.le_trans hB hB0.size
  have hM0 := h.keep (hB0.mono hB)
  have hg0 := Gr.refl W0
  have hl : ∃ ao cap, lv = .slice ao m.links.length cap := by obtain ⟨a, b, c, _⟩ := RowsAt.form h.links; exact ⟨a, b, c⟩
  have hr : ∃ ao cap, rv = .slice ao m.rules.length cap := by obtain ⟨a, b, c, _⟩ := RowsAt.form h.rules.1; rw [h.rlen] at c; exact ⟨a, b, c⟩
  have hs : ∃ ao cap, sv = .slice ao m.starts.length cap := by obtain ⟨a, b, c, _⟩ := RowsAt.form h.starts; exact ⟨a, b, c⟩
  clear hW0
  have hf := fits_any m lv rv sv hl hr hs W0
  clear hl hr hs
  go_enter Try.func25, Try.ntmps25
  go_upto_region 1 with fail
  rw [← HW0.out]
  clear HW0
  go_wp2_with fail
  refine hf.mono ?_
  rintro e1 w1 ⟨rfl, g1⟩
  clear hf
  have hg1 : Gr W0 w1 := g1
  cases el : limB m with
  | false =>
    have HA : Hid (valid m en = (1, 0)) := valid_range el
    clear el
    go_wp2
    go_ret2
    exact ⟨ret_two HA.out.symm, Gr.below hg1 hB0⟩
  | true =>
    have lim := lim_of_limB el
    have HL : Hid (limB m = true) := el
    clear el
    have hlk := fwLink_any m lim lv rv sv R B w1 (hM0.keep (hg1.mono hBW)) (Nat.le_trans hBW hg1.size)
    obtain ⟨a, ha⟩ : ∃ a, firstIx (linkBad m) m.links = a := ⟨_, rfl⟩
    rw [ha] at hlk
    have Ha : Hid (firstIx (linkBad m) m.links = a) := ha
    clear ha
    go_wp2_with fail
    refine hlk.mono ?_
    rintro e2 w2 ⟨rfl, g2⟩
    clear hlk
    have hg2 : Gr W0 w2 := Gr.trans hg1 g2
    by_cases h0 : 0 ≤ a
    · have HA : Hid (valid m en = (2, a)) := valid_link HL.out Ha.out h0
      go_wp2
      go_ret2
      exact ⟨ret_two HA.out.symm, Gr.below hg2 hB0⟩
    · have H1 : Hid (firstIx (linkBad m) m.links = -1) := (firstIx_neg (by rw [Ha.out]; exact h0)).1
      have hrl := firstWrongRule_any m lim lv rv sv R B w2 (hM0.keep (hg2.mono hBW)) (Nat.le_trans hBW hg2.size) hne
      go_wp2_with fail
      refine hrl.mono ?_
      rintro e3 w3 ⟨b, rfl, hfb, g3⟩
      clear hrl
      have hg3 : Gr W0 w3 := Gr.trans hg2 g3
      have Hb : Hid (wrongRule m = b) := (wrongRule_of hfb).symm
      have hbn : 0 ≤ b ∨ b = -1 := by
        rcases hfb with ⟨e, _⟩ | ⟨i, e, _⟩ <;> omega
      clear hfb
      by_cases h0 : 0 ≤ b
      · have HA : Hid (valid m en = (3, b)) := valid_rule HL.out H1.out Hb.out h0
        go_wp2
        go_ret2
        exact ⟨ret_two HA.out.symm, Gr.below hg3 hB0⟩
      · have H2 : Hid (wrongRule m = -1) := by show _ = _; rw [Hb.out]; omega
        have hst := fwStart_any m lim lv rv sv R B w3 (hM0.keep (hg3.mono hBW)) (Nat.le_trans hBW hg3.size)
        obtain ⟨c, hc⟩ : ∃ c, firstIx (startBad m) m.starts = c := ⟨_, rfl⟩
        rw [hc] at hst
        have Hc : Hid (firstIx (startBad m) m.starts = c) := hc
        clear hc
        go_wp2_with fail
        refine hst.mono ?_
        rintro e4 w4 ⟨rfl, g4⟩
        clear hst
        have hg4 : Gr W0 w4 := Gr.trans hg3 g4
        by_cases h0 : 0 ≤ c
        · have HA : Hid (valid m en = (4, c)) := valid_start HL.out H1.out H2.out Hc.out h0
          go_wp2
          go_ret2
          exact ⟨ret_two HA.out.symm, Gr.below hg4 hB0⟩
        · have H3 : Hid (firstIx (startBad m) m.starts = -1) := (firstIx_neg (by rw [Hc.out]; exact h0)).1
          have hwi := within_any en 0 200 w4
          cases e5 : withinB en 0 200 with
          | false =>
            have HA : Hid (valid m en = (5, 0)) := valid_end HL.out H1.out H2.out H3.out e5
            rw [e5] at hwi
            clear e5
            go_wp2_with fail
            refine hwi.mono ?_
            rintro e6 w5 ⟨rfl, rfl⟩
            go_wp2
            go_ret2
            exact ⟨ret_two HA.out.symm, Gr.below hg4 hB0⟩
          | true =>
            rw [e5] at hwi
            go_wp2_with fail
            refine hwi.mono ?_
            rintro e6 w5 ⟨rfl, rfl⟩
            have hg5 := hg4
            have HV : Hid (valid m en = (0, 0)) := valid_ok HL.out H1.out H2.out H3.out e5
            go_wp2
            go_ret2
            exact ⟨ret_two HV.out.symm, Gr.below hg5 hB0⟩

set_option maxRecDepth 100000 in
set_option maxHeartbeats 4000000 in
theorem check_any (m : Mdl) (lv rv sv : Value) (R : List RuleV) (B : Nat) (en : Int) (w : World) (h : ModelAt w B lv rv sv m R) (hB : B ≤ w.heap.size) (hne : ∀ r ∈ m.rules, r.es.length ≤ 5864062014634) :
    Calls Try.prog 11 #[.agg #[.int .i64 m.procs, .int .i64 m.states, .int .i64 m.loads, lv, rv, sv], .int .i64 en] w fun e w' => e = .returned (.tuple #[.int .i64 (answer m en).1, .int .i64 (answer m en).2]) ∧ Below w.heap.size w w' := by
  obtain ⟨W0, hW0⟩ : ∃ W0, W0 = w.alloc (.cells #[.int .i64 m.procs, .int .i64 m.states, .int .i64 m.loads, lv, rv, sv] 31) := ⟨_, rfl⟩
  have HW0 : Hid (W0 = w.alloc (.cells #[.int .i64 m.procs, .int .i64 m.states, .int .i64 m.loads, lv, rv, sv] 31)) := hW0
  have hB0 : Below w.heap.size w W0 := by rw [hW0]; exact (Below.refl _ _).alloc (Nat.le_refl _) _
  have hmb : Blk W0 w.heap.size #[.int .i64 m.procs, .int .i64 m.states, .int .i64 m.loads, lv, rv, sv] 31 := by rw [hW0]; exact heap_alloc_new w _
  have k0 := Gr.cells (v := .int .i64 m.procs) (hmb.cell 0)
  have k1 := Gr.cells (v := .int .i64 m.states) (hmb.cell 1)
  have k2 := Gr.cells (v := .int .i64 m.loads) (hmb.cell 2)
  have k3 := Gr.cells (v := lv) (hmb.cell 3)
  have k4 := Gr.cells (v := rv) (hmb.cell 4)
  have k5 := Gr.cells (v := sv) (hmb.cell 5)
  have hBW : B ≤ W0.heap.size := Nat.le_trans hB hB0.size
  have hM0 := h.keep (hB0.mono hB)
  have hg0 := Gr.refl W0
  clear hW0
  have hf := parts_any m lv rv sv R B en W0 hM0 hBW hne
  obtain ⟨e0, n0, HV⟩ : ∃ e0 n0, Hid (valid m en = (e0, n0)) := ⟨_, _, rfl⟩
  rw [HV.out] at hf
  go_enter Try.func11, Try.ntmps11
  go_upto_region 1 with fail
  rw [← HW0.out]
  clear HW0
  go_wp2_with fail
  refine hf.mono ?_
  rintro e1 w1 ⟨rfl, g1⟩
  clear hf
  have hg1 : Gr W0 w1 := g1
  by_cases h0 : e0 = 0
  · have HV0 : Hid (valid m en = (0, 0)) := valid_zero (by rw [HV.out]; exact h0)
    obtain ⟨hRt, hen0, hen⟩ := right_of_valid HV0.out
    have hcnt := events_any w1 B lv rv sv m R en (hM0.keep (hg1.mono hBW)) (Nat.le_trans hBW hg1.size) hRt hen
    go_wp2_with fail
    refine hcnt.mono ?_
    rintro e6 w6 ⟨n, rfl, g6, hcase⟩
    clear hcnt
    have hg6 : Gr W0 w6 := Gr.trans hg1 g6
    rcases hcase with ⟨hn, hF⟩ | ⟨rfl, hF⟩
    · have HA : Hid (answer m en = (0, 0)) := by show _ = _; rw [answer, if_pos HV0.out, if_pos (fewB_iff.2 hF)]
      clear hF
      go_wp2
      go_ret2
      exact ⟨ret_two HA.out.symm, Gr.below hg6 hB0⟩
    · have HA : Hid (answer m en = (6, 0)) := by
        show _ = _
        rw [answer, if_pos HV0.out, if_neg]
        intro hf; exact hF (fewB_iff.1 hf)
      clear hF
      go_wp2
      go_ret2
      exact ⟨ret_two HA.out.symm, Gr.below hg6 hB0⟩
  · have HA : Hid (answer m en = (e0, n0)) := answer_err HV.out h0
    go_wp2
    go_ret2
    exact ⟨ret_two HA.out.symm, Gr.below hg1 hB0⟩

end Go.Proofs.Ytkobkilfbbalaaa

