/-
  The reference: Sequel, Check.
  The program: what a process hears and is sure of.
  The program: leastProcess.
-/
import Derived.Test.YtkobkilfbbalaaaK07
import Derived.Deep.OwnRows
import Derived.Deep.LoopGhost
import Derived.Test.YtkobkilfbbalaaaK06
import Derived.Maps.RangeWalk
namespace Go.Proofs.Ytkobkilfbbalaaa
open Go.RowKit Go.Sort Go.Maps

theorem made_ints (n : Nat) : madeCells #[Value.int .i64 0] n = ints (List.replicate n 0) := by
  apply Array.ext
  · simp [madeCells, ints]
  · intro i h1 h2
    simp [madeCells, ints, Nat.mod_one]
theorem made_nils (n : Nat) : madeCells #[Value.slice none 0 0] n = (List.replicate n (Value.slice none 0 0)).toArray := by
  apply Array.ext
  · simp [madeCells]
  · intro i h1 h2
    simp [madeCells, Nat.mod_one]

theorem info_dns : (Try.prog.info? 74).map (fun i => (i.zero, i.size, i.bytes)) = some (some (.slice none 0 0), 1, 24) := by kernel_rfl
theorem info_ins : (Try.prog.info? 55).map (fun i => (i.zero, i.size, i.bytes)) = some (some (.slice none 0 0), 1, 24) := by kernel_rfl

/-- the first k starts wait -/
def cS (m : Mdl) (k : Nat) : Cs := { c0 m with wait := (m.starts.mapIdx initEv).take k }
theorem cS_all (m : Mdl) : cS m m.starts.length = c0 m := by
  have : (m.starts.mapIdx initEv).take m.starts.length = m.starts.mapIdx initEv := List.take_of_length_le (by simp)
  unfold cS
  rw [this]; rfl
theorem cS_next {m : Mdl} {k : Nat} {s : MStart} (h : m.starts[k]? = some s) : cS m (k + 1) = { cS m k with wait := (cS m k).wait ++ [(⟨⟨s.t, -1, (k : Int), s.l⟩, s.p, -1⟩ : Ev)] } := by
  unfold cS
  have h2 : (m.starts.mapIdx initEv)[k]? = some ⟨⟨s.t, -1, (k : Int), s.l⟩, s.p, -1⟩ := by
    rw [List.getElem?_mapIdx, h]; rfl
  rw [List.take_add_one, h2]; rfl

theorem rep_none {n p : Nat} {v : Value} (h : (List.replicate n (Value.slice none 0 0))[p]? = some v) : v = .slice none 0 0 := by
  have := List.mem_of_getElem? h
  exact (List.mem_replicate.1 this).2

theorem rep_own {n p : Nat} : ownOf (List.replicate n (Value.slice none 0 0))[p]? = none := by
  cases h : (List.replicate n (Value.slice none 0 0))[p]? with
  | none => rfl
  | some v => rw [rep_none h]; rfl

theorem cat_init {W : World} {B cb sb qb db kb n : Nat} {lv rv sv : Value} {m : Mdl} (hn : np m = n)
    (hb : Blk W cb #[.int .i64 m.procs, .int .i64 m.states, .int .i64 m.loads, lv, rv, sv, .slice none 0 0, .slice (some ⟨sb, 0, none⟩) n n, .slice (some ⟨qb, 0, none⟩) n n, .slice (some ⟨db, 0, none⟩) n n, .slice (some ⟨kb, 0, none⟩) n n, .int .i64 0] 73)
    (hs : Blk W sb (madeCells #[.int .i64 0] n) 3) (hq : Blk W qb (madeCells #[.int .i64 0] n) 3) (hd : Blk W db (madeCells #[.slice none 0 0] n) 74) (hk : Blk W kb (madeCells #[.slice none 0 0] n) 55)
    (lc : B ≤ cb) (ls : B ≤ sb) (lq : B ≤ qb) (ld : B ≤ db) (lk : B ≤ kb)
    (n1 : cb ≠ sb ∧ cb ≠ qb ∧ cb ≠ db ∧ cb ≠ kb) (n2 : sb ≠ qb ∧ sb ≠ db ∧ sb ≠ kb) (n3 : qb ≠ db ∧ qb ≠ kb) (n4 : db ≠ kb) :
    CAt W B cb lv rv sv m (.slice none 0 0) sb qb db kb (List.replicate (np m) (.slice none 0 0)) (List.replicate (np m) (.slice none 0 0)) (cS m 0) := by
  subst hn
  rw [made_ints] at hs hq
  rw [made_nils] at hd hk
  refine ⟨hb, ?_, hs, hq, hd, hk, by simp, by simp, ?_, ?_, lc, ls, lq, ld, lk, by simp [cS, c0], by simp [cS, c0], ?_⟩
  · have : (cS m 0).wait = [] := by simp [cS]
    rw [this]
    exact Own.nil _ _ _
  · intro p v l hv hl
    rw [rep_none hv]
    have := List.mem_of_getElem? hl
    simp only [cS, c0, List.mem_replicate] at this
    rw [this.2]
    exact Own.nil _ _ _
  · intro p v l hv hl
    rw [rep_none hv]
    have := List.mem_of_getElem? hl
    simp only [cS, c0, List.mem_replicate] at this
    rw [this.2]
    exact Own.nil _ _ _
  · have key : ∀ i g, owner cb sb qb db kb (.slice none 0 0) (List.replicate (np m) (.slice none 0 0)) (List.replicate (np m) (.slice none 0 0)) i = some g → (i = .c ∧ g = cb) ∨ (i = .s ∧ g = sb) ∨ (i = .q ∧ g = qb) ∨ (i = .d ∧ g = db) ∨ (i = .k ∧ g = kb) := by
      intro i g h
      unfold owner at h
      split at h
      · cases h; simp
      · cases h
      · cases h; simp
      · cases h; simp
      · cases h; simp
      · cases h; simp
      · rw [rep_own] at h; cases h
      · rw [rep_own] at h; cases h
      · cases h
    intro i j g hi hj
    rcases key i g hi with ⟨e1, e2⟩ | ⟨e1, e2⟩ | ⟨e1, e2⟩ | ⟨e1, e2⟩ | ⟨e1, e2⟩ <;> rcases key j g hj with ⟨e3, e4⟩ | ⟨e3, e4⟩ | ⟨e3, e4⟩ | ⟨e3, e4⟩ | ⟨e3, e4⟩ <;> first | (exfalso; omega) | (rw [e1, e3])

theorem blk_new {W : World} {b : Nat} {c : Array Value} {T : TypeId} (h : b = W.heap.size) : Blk (W.alloc (.cells c T)) b c T := by
  subst h; exact heap_alloc_new W _

theorem below_of_gr {W0 W : World} {B : Nat} (h : Gr W0 W) (e : W0.heap.size = B) : Below B W0 W := by subst e; exact h
theorem Gr.drew {a b : World} (h : Gr a b) : Gr a b.drew := ⟨h.os, h.tape, h.output, h.size, h.block⟩

set_option maxRecDepth 100000 in
set_option maxHeartbeats 8000000 in
theorem sequel_any (m : Mdl) (lv rv sv : Value) (R : List RuleV) (Bm : Nat) (en : Int) (w : World) (hM : ModelAt w Bm lv rv sv m R) (hBm : Bm ≤ w.heap.size) (hm : Right m) (hen : en ≤ 200) :
    Calls Try.prog 28 #[.agg #[.int .i64 m.procs, .int .i64 m.states, .int .i64 m.loads, lv, rv, sv], .int .i64 en] w fun e w' => ∃ (cb : Nat) (b : Bool), e = .returned (.tuple #[.pointer (some ⟨cb, 0, none⟩), .bool b]) ∧ Below w.heap.size w w' ∧
      ((b = true ∧ ∃ k wv sb qb db kb D C, k ≤ 300 ∧ nx en (atK m en k).wait = none ∧ CAt w' (w.heap.size + 1) cb lv rv sv m wv sb qb db kb D C (atK m en k)) ∨ (b = false ∧ ¬ Few m en)) := by
  have hp1 := hm.lim.p1
  have hp2 := hm.lim.p2
  obtain ⟨n, hn⟩ : ∃ n : Nat, m.procs = (n : Int) := ⟨m.procs.toNat, by omega⟩
  have Hnp : Hid (np m = n) := by show _ = _; unfold np; omega
  have Hn : Hid (m.procs = (n : Int)) := hn
  have hn6 : n ≤ 6 := by omega
  rw [hn]
  obtain ⟨ao2, cap2, hsv, hcap2⟩ := RowsAt.form hM.starts
  subst hsv
  obtain ⟨i0, hi0, hz0, hz1, hz2⟩ := info_parts info_ev
  have hmk1 := run_make_row' (P := Try.prog) 55 3 (.int .i64 0) 8 Try.underlying55 info_in rfl .i64 .i64 n (by omega) (by omega)
  have hmk2 := run_make_row' (P := Try.prog) 70 74 (.slice none 0 0) 24 Try.underlying70 info_dns rfl .i64 .i64 n (by omega) (by omega)
  have hmk3 := run_make_row' (P := Try.prog) 71 55 (.slice none 0 0) 24 Try.underlying71 info_ins rfl .i64 .i64 n (by omega) (by omega)
  have hB0 : Below w.heap.size w (w.alloc (.cells #[.int .i64 (n : Int), .int .i64 m.states, .int .i64 m.loads, lv, rv, .slice ao2 m.starts.length cap2] 26)) := (Below.refl _ _).alloc (Nat.le_refl _) _
  have hmb : Blk (w.alloc (.cells #[.int .i64 (n : Int), .int .i64 m.states, .int .i64 m.loads, lv, rv, .slice ao2 m.starts.length cap2] 26)) w.heap.size #[.int .i64 (n : Int), .int .i64 m.states, .int .i64 m.loads, lv, rv, .slice ao2 m.starts.length cap2] 26 := heap_alloc_new w _
  have k0 := Gr.cells (v := .int .i64 (n : Int)) (hmb.cell 0)
  have k1 := Gr.cells (v := .int .i64 m.states) (hmb.cell 1)
  have k2 := Gr.cells (v := .int .i64 m.loads) (hmb.cell 2)
  have k3 := Gr.cells (v := lv) (hmb.cell 3)
  have k4 := Gr.cells (v := rv) (hmb.cell 4)
  have k5 := Gr.cells (v := .slice ao2 m.starts.length cap2) (hmb.cell 5)
  have hz : (w.alloc (.cells #[.int .i64 (n : Int), .int .i64 m.states, .int .i64 m.loads, lv, rv, .slice ao2 m.starts.length cap2] 26)).heap.size = w.heap.size + 1 := by simp
  have Hz : Hid ((w.alloc (.cells #[.int .i64 (n : Int), .int .i64 m.states, .int .i64 m.loads, lv, rv, .slice ao2 m.starts.length cap2] 26)).heap.size = w.heap.size + 1) := hz
  clear hn hz
  go_enter Try.func28, Try.ntmps28
  go_upto_region 1 with fail
  go_cut [6] (fun s6 wc => ∃ cb sb qb db kb, s6 = .pointer (some ⟨cb, 0, none⟩) ∧ CAt wc (w.heap.size + 1) cb lv rv (.slice ao2 m.starts.length cap2) m (.slice none 0 0) sb qb db kb (List.replicate (np m) (.slice none 0 0)) (List.replicate (np m) (.slice none 0 0)) (cS m 0) ∧ Below (w.heap.size + 1) (w.alloc (.cells #[.int .i64 (n : Int), .int .i64 m.states, .int .i64 m.loads, lv, rv, .slice ao2 m.starts.length cap2] 26)) wc)
  case first =>
    go_wp2
    go_region_held3 (fun W => Gr (w.alloc (.cells #[.int .i64 (n : Int), .int .i64 m.states, .int .i64 m.loads, lv, rv, .slice ao2 m.starts.length cap2] 26)) W) (first | assumption | exact Gr.drew (Gr.refl _) | exact Gr.alloc (by assumption) _) (fail)
    all_goals
      go_wp2
      go_meet
      case rel =>
        refine' ⟨w.heap.size + 1 + 1 + 1 + 1 + 1, _, _, _, _, rfl, cat_init Hnp.out _ _ _ _ _ _ _ _ _ _ _ _ _ _, _⟩
        rotate_left 4
        · rw [Hn.out]
          refine Blk.drew (blk_new ?_)
          simp
        · refine Blk.drew ?_
          repeat (first | (refine blk_new ?_; simp; done) | refine Blk.alloc ?_ _)
        · refine Blk.drew ?_
          repeat (first | (refine blk_new ?_; simp; done) | refine Blk.alloc ?_ _)
        · refine Blk.drew ?_
          repeat (first | (refine blk_new ?_; simp; done) | refine Blk.alloc ?_ _)
        · refine Blk.drew ?_
          repeat (first | (refine blk_new ?_; simp; done) | refine Blk.alloc ?_ _)
        · omega
        · omega
        · omega
        · omega
        · omega
        · omega
        · omega
        · omega
        · omega
        · exact below_of_gr (by assumption) Hz.out
  case rest =>
    obtain ⟨cb, sb, qb, db, kb, rfl, hC, hbl⟩ := hcut
    clear k0 k1 k2 k3 k4 k5 hmk1 hmk2 hmk3
    go_wp2
    go_loopw [7] (fun s7 wr => ∃ (k : Nat) (wvk : Value), s7 = .int .i64 k ∧ k ≤ m.starts.length ∧ CAt wr (w.heap.size + 1) cb lv rv (.slice ao2 m.starts.length cap2) m wvk sb qb db kb (List.replicate (np m) (.slice none 0 0)) (List.replicate (np m) (.slice none 0 0)) (cS m k) ∧ Below (w.heap.size + 1) (w.alloc (.cells #[.int .i64 (n : Int), .int .i64 m.states, .int .i64 m.loads, lv, rv, .slice ao2 m.starts.length cap2] 26)) wr) (fun s7 _ => m.starts.length - (intOf s7).toNat)
    case atStart => exact ⟨0, _, rfl, Nat.zero_le _, hC, hbl⟩
    case round =>
      clear hC hbl
      obtain ⟨k, wvk, rfl, hk, hCk, hblk⟩ := hrel
      have hbw : Below w.heap.size w wr := hB0.trans (hblk.mono (by omega))
      have hMk := hM.keep (hbw.mono hBm)
      have hBk : w.heap.size + 1 ≤ wr.heap.size := by have := hblk.size; rw [Hz.out] at this; exact this
      have m5 : wr.cell? ⟨w.heap.size, 5, none⟩ = some (.slice ao2 m.starts.length cap2) := (hblk.cell (p := ⟨w.heap.size, 5, none⟩) (Nat.lt_succ_self _)).trans (hmb.cell 5)
      by_cases hlt : k < m.starts.length
      · obtain ⟨s, hs⟩ := get_of_lt hlt
        obtain ⟨b, off, hao, hbB, hc⟩ := RowsAt.at_ hMk.starts hs
        subst hao
        have x0 := hc 0 (.int .i64 s.p) rfl
        have x1 := hc 1 (.int .i64 s.t) rfl
        have x2 := hc 2 (.int .i64 s.l) rfl
        simp only [Nat.add_zero] at x0
        have Hs : Hid (m.starts[k]? = some s) := hs
        have hst := hm.lim.ns
        obtain ⟨aow, capw, hwvk, hcapw⟩ := hCk.wait.form'
        have hnw : (cS m k).wait.length = k := by simp [cS]; omega
        have Hnw : Hid ((cS m k).wait.length = k) := hnw
        rw [hnw] at hwvk hcapw
        subst hwvk
        clear hnw hs hc
        have c6 : wr.cell? ⟨cb, 6, none⟩ = some (.slice aow k capw) := hCk.blk.cell 6
        have hlcb := hCk.blk.lt
        have hlb : b < wr.heap.size := block_lt_of_cell x0
        have hcc := newCells (wr.alloc (.cells #[.int .i64 s.p, .int .i64 s.t, .int .i64 s.l] 89)) [.int .i64 s.t, .int .i64 (-1), .int .i64 (k : Int), .int .i64 s.l, .int .i64 s.p, .int .i64 (-1)] 144
        rw [World.size_alloc] at hcc
        have hWW : KeptF (fun _ => False) wr ((wr.alloc (.cells #[.int .i64 s.p, .int .i64 s.t, .int .i64 s.l] 89)).alloc (.cells #[.int .i64 s.t, .int .i64 (-1), .int .i64 (k : Int), .int .i64 s.l, .int .i64 s.p, .int .i64 (-1)] 144)).drew := (((KeptF.refl _ wr).alloc _).alloc _).drew
        have hWl := hWW.size
        have hone : ∀ u ∈ [Value.int .i64 s.t, .int .i64 (-1), .int .i64 (k : Int), .int .i64 s.l, .int .i64 s.p, .int .i64 (-1)], u.oneCell' = true := by
          intro u hu
          simp only [List.mem_cons, List.not_mem_nil, or_false] at hu
          rcases hu with rfl | rfl | rfl | rfl | rfl | rfl <;> rfl
        have hxb : Blk (wr.alloc (.cells #[.int .i64 s.p, .int .i64 s.t, .int .i64 s.l] 89)) wr.heap.size #[.int .i64 s.p, .int .i64 s.t, .int .i64 s.l] 89 := heap_alloc_new wr _
        have nwo : ∀ i g, i ≠ Ix.w → owner cb sb qb db kb (.slice aow k capw) (List.replicate (np m) (.slice none 0 0)) (List.replicate (np m) (.slice none 0 0)) i = some g → (Value.slice aow k capw).ownBlock ≠ some g := fun i g hi hg e => hi (hCk.dist i .w g hg e)
        have X0 := Sp.cell (b0 := cb) (o0 := 6) (own := (Value.slice aow k capw).ownBlock) (v := .int .i64 s.p) (hxb.cell 0) (fun e' => by have := (hCk.lt (i := .w) e').2; omega) (fun ⟨h1, _⟩ => by omega)
        have X1 := Sp.cell (b0 := cb) (o0 := 6) (own := (Value.slice aow k capw).ownBlock) (v := .int .i64 s.t) (hxb.cell 1) (fun e' => by have := (hCk.lt (i := .w) e').2; omega) (fun ⟨h1, _⟩ => by omega)
        have X2 := Sp.cell (b0 := cb) (o0 := 6) (own := (Value.slice aow k capw).ownBlock) (v := .int .i64 s.l) (hxb.cell 2) (fun e' => by have := (hCk.lt (i := .w) e').2; omega) (fun ⟨h1, _⟩ => by omega)
        have hown0 : ((wr.alloc (.cells #[.int .i64 s.p, .int .i64 s.t, .int .i64 s.l] 89)).alloc (.cells #[.int .i64 s.t, .int .i64 (-1), .int .i64 (k : Int), .int .i64 s.l, .int .i64 s.p, .int .i64 (-1)] 144)).drew.ownsRow (w.heap.size + 1) 144 6 (.slice aow k capw) k (flat evE (cS m k).wait) := by
          have := hCk.wait.keep hWW (fun _ _ e => e)
          unfold Own at this
          rw [Hnw.out] at this
          exact this
        go_wp2
        refine wp_region_held_drew (S := (fun W => Sp (wr.alloc (.cells #[.int .i64 s.p, .int .i64 s.t, .int .i64 s.l] 89)) cb 6 (Value.slice aow k capw).ownBlock W)) (by kernel_rfl) ?_ (fun hHeld => ?_)
        · (try dsimp only)
          (first | assumption | exact Sp.drew (by assumption) | exact Sp.of_kept ((KeptF.refl _ _).drew) | exact Sp.of_kept (((KeptF.refl _ _).alloc _).drew) | exact Sp.set (by assumption) _)
        refine takeL 0 (v := ?_) rfl (by kernel_rfl) (by kernel_rfl) (by kernel_rfl) (fun _ _ _ h => h) (by rfl) ?_ (by assumption) ?_
        rotate_left
        · intro w hSw
          (try dsimp only at hSw)
          go_simp
          all_goals with_reducible rfl
        try simp only [Act.put, List.setIfInBounds_toArray, List.set_cons_zero, List.set_cons_succ]
        refine takeL 1 (v := ?_) rfl (by kernel_rfl) (by kernel_rfl) (by kernel_rfl) (fun _ _ _ h => h) (by rfl) ?_ (by assumption) ?_
        rotate_left
        · intro w hSw
          (try dsimp only at hSw)
          go_simp
          all_goals with_reducible rfl
        try simp only [Act.put, List.setIfInBounds_toArray, List.set_cons_zero, List.set_cons_succ]
        refine takeL 2 (v := ?_) rfl (by kernel_rfl) (by kernel_rfl) (by kernel_rfl) (fun _ _ _ h => h) (by rfl) ?_ (by assumption) ?_
        rotate_left
        · intro w hSw
          (try dsimp only at hSw)
          go_simp
          all_goals with_reducible rfl
        try simp only [Act.put, List.setIfInBounds_toArray, List.set_cons_zero, List.set_cons_succ]
        refine takeL 3 (v := ?_) rfl (by kernel_rfl) (by kernel_rfl) (by kernel_rfl) (fun _ _ _ h => h) (by rfl) ?_ (by assumption) ?_
        rotate_left
        · intro w hSw
          (try dsimp only at hSw)
          go_simp
          all_goals with_reducible rfl
        try simp only [Act.put, List.setIfInBounds_toArray, List.set_cons_zero, List.set_cons_succ]
        refine takeL 5 (v := ?_) rfl (by kernel_rfl) (by kernel_rfl) (by kernel_rfl) (fun _ _ _ h => h) (by rfl) ?_ (by assumption) ?_
        rotate_left
        · intro w hSw
          (try dsimp only at hSw)
          go_simp
          all_goals with_reducible rfl
        try simp only [Act.put, List.setIfInBounds_toArray, List.set_cons_zero, List.set_cons_succ]
        refine takeL 6 (v := ?_) rfl (by kernel_rfl) (by kernel_rfl) (by kernel_rfl) (fun _ _ _ h => h) (by rfl) ?_ (by assumption) ?_
        rotate_left
        · intro w hSw
          (try dsimp only at hSw)
          go_simp
          all_goals with_reducible rfl
        try simp only [Act.put, List.setIfInBounds_toArray, List.set_cons_zero, List.set_cons_succ]
        refine takeL 7 (v := ?_) rfl (by kernel_rfl) (by kernel_rfl) (by kernel_rfl) (fun _ _ _ h => h) (by rfl) ?_ (by assumption) ?_
        rotate_left
        · intro w hSw
          (try dsimp only at hSw)
          go_simp
          all_goals with_reducible rfl
        try simp only [Act.put, List.setIfInBounds_toArray, List.set_cons_zero, List.set_cons_succ]
        refine takeL 8 (v := ?_) rfl (by kernel_rfl) (by kernel_rfl) (by kernel_rfl) (fun _ _ _ h => h) (by rfl) ?_ (by assumption) ?_
        rotate_left
        · intro w hSw
          (try dsimp only at hSw)
          go_simp
          all_goals with_reducible rfl
        try simp only [Act.put, List.setIfInBounds_toArray, List.set_cons_zero, List.set_cons_succ]
        refine takeL 9 (v := ?_) rfl (by kernel_rfl) (by kernel_rfl) (by kernel_rfl) (fun _ _ _ h => h) (by rfl) ?_ (by assumption) ?_
        rotate_left
        · intro w hSw
          (try dsimp only at hSw)
          go_simp
          all_goals with_reducible rfl
        try simp only [Act.put, List.setIfInBounds_toArray, List.set_cons_zero, List.set_cons_succ]
        refine takeL 10 (v := ?_) rfl (by kernel_rfl) (by kernel_rfl) (by kernel_rfl) (fun _ _ _ h => h) (by rfl) ?_ (by assumption) ?_
        rotate_left
        · intro w hSw
          (try dsimp only at hSw)
          go_simp
          all_goals with_reducible rfl
        try simp only [Act.put, List.setIfInBounds_toArray, List.set_cons_zero, List.set_cons_succ]
        refine takeL 11 (v := ?_) rfl (by kernel_rfl) (by kernel_rfl) (by kernel_rfl) (fun _ _ _ h => h) (by rfl) ?_ (by assumption) ?_
        rotate_left
        · intro w hSw
          (try dsimp only at hSw)
          go_simp
          all_goals with_reducible rfl
        try simp only [Act.put, List.setIfInBounds_toArray, List.set_cons_zero, List.set_cons_succ]
        refine takeL 12 (v := ?_) rfl (by kernel_rfl) (by kernel_rfl) (by kernel_rfl) (fun _ _ _ h => h) (by rfl) ?_ (by assumption) ?_
        rotate_left
        · intro w hSw
          (try dsimp only at hSw)
          go_simp
          all_goals with_reducible rfl
        try simp only [Act.put, List.setIfInBounds_toArray, List.set_cons_zero, List.set_cons_succ]
        refine takeL 13 (v := ?_) rfl (by kernel_rfl) (by kernel_rfl) (by kernel_rfl) (fun _ _ _ h => h) (by rfl) ?_ (by assumption) ?_
        rotate_left
        · intro w hSw
          (try dsimp only at hSw)
          go_simp
          all_goals with_reducible rfl
        try simp only [Act.put, List.setIfInBounds_toArray, List.set_cons_zero, List.set_cons_succ]
        refine wpAnyH_ready (rs := [4, 14]) (by kernel_rfl) (by simp) ?_
        refine consL rfl (fun K hK => ?_) (consL rfl (fun K hK => ?_) AllReadyH.nil)
        go_simp
        refine hK.out _ _ ?_ (fun hHeld => ?_)
        · (try dsimp only)
          (first | assumption | exact Sp.drew (by assumption) | exact Sp.of_kept ((KeptF.refl _ _).drew) | exact Sp.of_kept (((KeptF.refl _ _).alloc _).drew) | exact Sp.set (by assumption) _)
        clear hK K
        try simp only [Act.put, List.setIfInBounds_toArray, List.set_cons_zero, List.set_cons_succ]
        refine wpAnyH_ready (rs := [14]) (by kernel_rfl) (by simp) ?_
        refine consL rfl (fun K hK => ?_) AllReadyH.nil
        go_simp
        refine hK.out _ _ ?_ (fun hHeld => ?_)
        · (try dsimp only)
          (first | assumption | exact Sp.drew (by assumption) | exact Sp.of_kept ((KeptF.refl _ _).drew) | exact Sp.of_kept (((KeptF.refl _ _).alloc _).drew) | exact Sp.set (by assumption) _)
        clear hK K
        try simp only [Act.put, List.setIfInBounds_toArray, List.set_cons_zero, List.set_cons_succ]
        refine wpAnyH_ready (rs := [15]) (by kernel_rfl) (by simp) ?_
        refine consL rfl (fun K hK => ?_) AllReadyH.nil
        refine step_append_own rfl (.tmp 41) (.tmp 51) 69 rfl (w.heap.size + 1) 144 i0 _ 6 48 Try.underlying69 hi0 hz0 hz1 hz2 rfl (by decide) (.slice aow k capw) k (flat evE (cS m k).wait) (by simp [Act.eval]) ?_ ⟨wr.heap.size + 1, 0, none⟩ 1 1 [.int .i64 s.t, .int .i64 (-1), .int .i64 (k : Int), .int .i64 s.l, .int .i64 s.p, .int .i64 (-1)] (by simp [Act.eval]) rfl ?_ ?_ ?_ ?_ ?_ ?_
        · exact hown0
        · exact hcc
        · exact hone
        · unfold maxLen; omega
        · omega
        · exact Nat.le_trans hBk hWl
        intro v2 w2 hown2 hgr2 hfr2
        have hK2 : KeptF (fun k' => (Value.slice aow k capw).ownBlock = some k') wr w2 := (hWW.weaken (fun _ _ e => e.elim)).trans (KeptF.of_grown hgr2 (fun k h _ => h))
        have hS2 : Sp (wr.alloc (.cells #[.int .i64 s.p, .int .i64 s.t, .int .i64 s.l] 89)) cb 6 (Value.slice aow k capw).ownBlock w2 := Sp.of_kept (((((KeptF.refl _ _).alloc _).drew)).trans (KeptF.of_grown hgr2 (fun k h _ => h)))
        have hO2 : Own evE w2 (w.heap.size + 1) v2 ((cS m k).wait ++ [⟨⟨s.t, -1, (k : Int), s.l⟩, s.p, -1⟩]) := Own.snoc (by rw [Hnw.out]; exact hown2)
        have hb2 := hCk.blk.keep hK2 (nwo .c _ (by simp) rfl)
        have hc6b : w2.cell? ⟨cb, 6, none⟩ = some (.slice aow k capw) := hb2.cell 6
        have hf6b : w2.frozen? ⟨cb, 6, none⟩ = false := hb2.frozen 6
        obtain ⟨ao3, cap3, hv2, hcap3⟩ := hO2.form'
        rw [List.length_append, Hnw.out] at hv2
        have hv2 : v2 = .slice ao3 (k + 1) cap3 := hv2
        subst hv2
        refine hK.out _ _ ?_ (fun hHeld => ?_)
        · (try dsimp only)
          (first | assumption | exact Sp.drew (by assumption) | exact Sp.of_kept ((KeptF.refl _ _).drew) | exact Sp.of_kept (((KeptF.refl _ _).alloc _).drew) | exact Sp.set (by assumption) _)
        clear hK K
        try simp only [Act.put, List.setIfInBounds_toArray, List.set_cons_zero, List.set_cons_succ]
        refine takeL 16 (v := ?_) rfl (by kernel_rfl) (by kernel_rfl) (by kernel_rfl) (fun _ _ _ h => h) (by rfl) ?_ (by assumption) ?_
        rotate_left
        · intro w hSw
          (try dsimp only at hSw)
          go_simp
          all_goals with_reducible rfl
        try simp only [Act.put, List.setIfInBounds_toArray, List.set_cons_zero, List.set_cons_succ]
        refine takeL 17 (v := ?_) rfl (by kernel_rfl) (by kernel_rfl) (by kernel_rfl) (fun _ _ _ h => h) (by rfl) ?_ (by assumption) ?_
        rotate_left
        · intro w hSw
          (try dsimp only at hSw)
          go_simp
          all_goals with_reducible rfl
        try simp only [Act.put, List.setIfInBounds_toArray, List.set_cons_zero, List.set_cons_succ]
        refine wpAnyH_ready (rs := [18]) (by kernel_rfl) (by simp) ?_
        refine consL rfl (fun K hK => ?_) AllReadyH.nil
        go_simp
        refine hK.out _ _ ?_ (fun hHeld => ?_)
        · (try dsimp only)
          (first | assumption | exact Sp.drew (by assumption) | exact Sp.of_kept ((KeptF.refl _ _).drew) | exact Sp.of_kept (((KeptF.refl _ _).alloc _).drew) | exact Sp.set (by assumption) _)
        clear hK K
        try simp only [Act.put, List.setIfInBounds_toArray, List.set_cons_zero, List.set_cons_succ]
        refine wpAnyH_done (by kernel_rfl) ?_ _
        rotate_left
        go_simp
        refine hK.out _ _ ?_ (fun hHeld => ?_)
        · (try dsimp only)
          (first | assumption | exact Sp.drew (by assumption) | exact Sp.of_kept ((KeptF.refl _ _).drew) | exact Sp.of_kept (((KeptF.refl _ _).alloc _).drew) | exact Sp.set (by assumption) _)
        clear hK K
        try simp only [Act.put, List.setIfInBounds_toArray, List.set_cons_zero, List.set_cons_succ]
        refine wpAnyH_ready (rs := [4]) (by kernel_rfl) (by simp) ?_
        refine consL rfl (fun K hK => ?_) AllReadyH.nil
        go_simp
        refine hK.out _ _ ?_ (fun hHeld => ?_)
        · (try dsimp only)
          (first | assumption | exact Sp.drew (by assumption) | exact Sp.of_kept ((KeptF.refl _ _).drew) | exact Sp.of_kept (((KeptF.refl _ _).alloc _).drew) | exact Sp.set (by assumption) _)
        clear hK K
        try simp only [Act.put, List.setIfInBounds_toArray, List.set_cons_zero, List.set_cons_succ]
        refine wpAnyH_ready (rs := [15]) (by kernel_rfl) (by simp) ?_
        refine consL rfl (fun K hK => ?_) AllReadyH.nil
        refine step_append_own rfl (.tmp 41) (.tmp 51) 69 rfl (w.heap.size + 1) 144 i0 _ 6 48 Try.underlying69 hi0 hz0 hz1 hz2 rfl (by decide) (.slice aow k capw) k (flat evE (cS m k).wait) (by simp [Act.eval]) ?_ ⟨wr.heap.size + 1, 0, none⟩ 1 1 [.int .i64 s.t, .int .i64 (-1), .int .i64 (k : Int), .int .i64 s.l, .int .i64 s.p, .int .i64 (-1)] (by simp [Act.eval]) rfl ?_ ?_ ?_ ?_ ?_ ?_
        · exact hown0
        · exact hcc
        · exact hone
        · unfold maxLen; omega
        · omega
        · exact Nat.le_trans hBk hWl
        intro v2 w2 hown2 hgr2 hfr2
        have hK2 : KeptF (fun k' => (Value.slice aow k capw).ownBlock = some k') wr w2 := (hWW.weaken (fun _ _ e => e.elim)).trans (KeptF.of_grown hgr2 (fun k h _ => h))
        have hS2 : Sp (wr.alloc (.cells #[.int .i64 s.p, .int .i64 s.t, .int .i64 s.l] 89)) cb 6 (Value.slice aow k capw).ownBlock w2 := Sp.of_kept (((((KeptF.refl _ _).alloc _).drew)).trans (KeptF.of_grown hgr2 (fun k h _ => h)))
        have hO2 : Own evE w2 (w.heap.size + 1) v2 ((cS m k).wait ++ [⟨⟨s.t, -1, (k : Int), s.l⟩, s.p, -1⟩]) := Own.snoc (by rw [Hnw.out]; exact hown2)
        have hb2 := hCk.blk.keep hK2 (nwo .c _ (by simp) rfl)
        have hc6b : w2.cell? ⟨cb, 6, none⟩ = some (.slice aow k capw) := hb2.cell 6
        have hf6b : w2.frozen? ⟨cb, 6, none⟩ = false := hb2.frozen 6
        obtain ⟨ao3, cap3, hv2, hcap3⟩ := hO2.form'
        rw [List.length_append, Hnw.out] at hv2
        have hv2 : v2 = .slice ao3 (k + 1) cap3 := hv2
        subst hv2
        refine hK.out _ _ ?_ (fun hHeld => ?_)
        · (try dsimp only)
          (first | assumption | exact Sp.drew (by assumption) | exact Sp.of_kept ((KeptF.refl _ _).drew) | exact Sp.of_kept (((KeptF.refl _ _).alloc _).drew) | exact Sp.set (by assumption) _)
        clear hK K
        try simp only [Act.put, List.setIfInBounds_toArray, List.set_cons_zero, List.set_cons_succ]
        refine takeL 16 (v := ?_) rfl (by kernel_rfl) (by kernel_rfl) (by kernel_rfl) (fun _ _ _ h => h) (by rfl) ?_ (by assumption) ?_
        rotate_left
        · intro w hSw
          (try dsimp only at hSw)
          go_simp
          all_goals with_reducible rfl
        try simp only [Act.put, List.setIfInBounds_toArray, List.set_cons_zero, List.set_cons_succ]
        refine takeL 17 (v := ?_) rfl (by kernel_rfl) (by kernel_rfl) (by kernel_rfl) (fun _ _ _ h => h) (by rfl) ?_ (by assumption) ?_
        rotate_left
        · intro w hSw
          (try dsimp only at hSw)
          go_simp
          all_goals with_reducible rfl
        try simp only [Act.put, List.setIfInBounds_toArray, List.set_cons_zero, List.set_cons_succ]
        refine wpAnyH_ready (rs := [18]) (by kernel_rfl) (by simp) ?_
        refine consL rfl (fun K hK => ?_) AllReadyH.nil
        go_simp
        refine hK.out _ _ ?_ (fun hHeld => ?_)
        · (try dsimp only)
          (first | assumption | exact Sp.drew (by assumption) | exact Sp.of_kept ((KeptF.refl _ _).drew) | exact Sp.of_kept (((KeptF.refl _ _).alloc _).drew) | exact Sp.set (by assumption) _)
        clear hK K
        try simp only [Act.put, List.setIfInBounds_toArray, List.set_cons_zero, List.set_cons_succ]
        refine wpAnyH_done (by kernel_rfl) ?_ _
        rotate_left
        all_goals
          have hC3 := hCk.newWait (l' := (cS m k).wait ++ [⟨⟨s.t, -1, (k : Int), s.l⟩, s.p, -1⟩]) ((hK2.weaken (G := Touch (owner cb sb qb db kb (.slice aow k capw) (List.replicate (np m) (.slice none 0 0)) (List.replicate (np m) (.slice none 0 0))) (fun i => i = .c ∨ i = .w)) (fun i _ h => ⟨.w, .inr rfl, h⟩)).setCell (p := ⟨cb, 6, none⟩) (.inl ⟨.c, .inl rfl, rfl⟩) (.slice ao3 (k + 1) cap3)) (hb2.set 6 _)
            (hO2.keep ((KeptF.refl (fun k => k = cb) w2).setCell (p := ⟨cb, 6, none⟩) (.inl rfl) _) (fun g hg e' => by
              subst e'
              rcases hfr2 g hg with h1 | h1
              · exact nwo .c _ (by simp) rfl h1
              · have := hCk.blk.lt; have := hWW.size; omega)) (fun g hg => by
              rcases hfr2 g hg with h1 | h1
              · exact .inl h1
              · exact .inr (Nat.le_trans hWW.size h1))
          have hK3 : KeptF (fun k' => k' = cb ∨ (Value.slice aow k capw).ownBlock = some k') wr (w2.setCell ⟨cb, 6, none⟩ (.slice ao3 (k + 1) cap3)) := (hK2.weaken (fun _ _ h => .inr h)).setCell (p := ⟨cb, 6, none⟩) (.inl (.inl rfl)) _
          have hbl3 : Below (w.heap.size + 1) _ (w2.setCell ⟨cb, 6, none⟩ (.slice ao3 (k + 1) cap3)) := hblk.trans (KeptF.below hK3 hBk (fun i h => by
            rcases h with h | h
            · subst h; exact hCk.lc
            · exact (hCk.lt (i := .w) h).1))
          generalize w2.setCell ⟨cb, 6, none⟩ (.slice ao3 (k + 1) cap3) = w3 at *
          clear X0 X1 X2 hown0 hcc hone c6 x0 x1 x2 m5 hS2 hc6b hf6b hb2
          go_wp2
          go_roundw
          case rel => exact ⟨k + 1, _, by go_num, hlt, by rw [cS_next Hs.out]; exact hC3, hbl3⟩
          case measure => simp [intOf]; omega
      · have hke : k = m.starts.length := by omega
        subst hke
        rw [cS_all] at hCk
        have hC0 : CAt wr (w.heap.size + 1) cb lv rv (.slice ao2 m.starts.length cap2) m wvk sb qb db kb (List.replicate (np m) (.slice none 0 0)) (List.replicate (np m) (.slice none 0 0)) (atK m en 0) := hCk
        have hI0 : Inv m (atK m en 0) := inv_c0 hm
        clear hCk
        go_wp2
        go_loopg [] 301 (fun g wr => ∃ (k : Nat) (wv : Value) (D C : List Value), g = 301 - k ∧ k ≤ 301 ∧ CAt wr (w.heap.size + 1) cb lv rv (.slice ao2 m.starts.length cap2) m wv sb qb db kb D C (atK m en k) ∧ (atK m en k).all = k ∧ Inv m (atK m en k) ∧ Live m en k ∧ Below (w.heap.size + 1) (w.alloc (.cells #[.int .i64 (n : Int), .int .i64 m.states, .int .i64 m.loads, lv, rv, .slice ao2 m.starts.length cap2] 26)) wr)
        case atStart => exact ⟨0, wvk, _, _, rfl, by omega, hC0, rfl, hI0, fun i hi => by omega, hblk⟩
        case round =>
          clear hC0 hI0 hblk hbw hMk hBk m5 hlt
          obtain ⟨k, wv, D, C, rfl, hk, hCk, hall, hI, hLive, hblk⟩ := hrel
          have Hall : Hid ((atK m en k).all = k) := hall
          have hbw : Below w.heap.size w wr := hB0.trans (hblk.mono (by omega))
          have hBk : w.heap.size + 1 ≤ wr.heap.size := by have := hblk.size; rw [Hz.out] at this; exact this
          have c11 : wr.cell? ⟨cb, 11, none⟩ = some (.int .i64 (k : Int)) := by
            have := hCk.blk.cell 11
            rw [show (wr.cell? ⟨cb, 11, none⟩) = some (.int .i64 (atK m en k).all) from this, hall]
          have hlen := hI.len
          rw [hall] at hlen
          clear hall
          by_cases hle : k ≤ 300
          · have hnext := next_any wr (w.heap.size + 1) cb lv rv (.slice ao2 m.starts.length cap2) m wv sb qb db kb D C (atK m en k) en hCk (by omega)
            go_wp2_with fail
            refine hnext.mono ?_
            rintro e1 wn ⟨kk, rfl, hN, hbn⟩
            clear hnext c11
            have hCn := hCk.grow (kept_of_below' hbn)
            have hbln : Below (w.heap.size + 1) (w.alloc (.cells #[.int .i64 (n : Int), .int .i64 m.states, .int .i64 m.loads, lv, rv, .slice ao2 m.starts.length cap2] 26)) wn := hblk.trans (hbn.mono hBk)
            rcases NextUpto.nx hI.keys hN with ⟨rfl, hnone⟩ | ⟨j, e, rfl, hsome, he, het⟩
            · go_wp2
              go_ret2
              exact ⟨cb, true, rfl, hB0.trans (hbln.mono (by omega)), .inl ⟨rfl, k, wv, sb, qb, db, kb, D, C, hle, hnone, hCn⟩⟩
            · have hdo := do_any wn (w.heap.size + 1) Bm cb lv rv (.slice ao2 m.starts.length cap2) m wv sb qb db kb D C (atK m en k) R j e hCn hm hI (hM.keep ((hB0.trans (hbln.mono (by omega))).mono hBm)) (by omega) (Nat.le_trans hBk hbn.size) he (by omega) (by rw [Hall.out]; exact hle)
              have Hdo : Hid (atK m en (k + 1) = doEv m (atK m en k) j e) := stepF_some hsome he
              have Hdall : Hid ((atK m en (k + 1)).all = k + 1) := by show _ = _; rw [Hdo.out, doEv_all, Hall.out]
              have hI2 : Inv m (atK m en (k + 1)) := by rw [Hdo.out]; exact inv_do hm hI hen he het
              have hLive2 : Live m en (k + 1) := fun i hi => by
                by_cases e : i = k
                · subst e; rw [hsome]; simp
                · exact hLive i (by omega)
              clear hN hsome he
              go_wp2_with fail
              refine hdo.mono ?_
              rintro e2 wd ⟨rfl, wv', D', C', hCd, hbd⟩
              rw [← Hdo.out] at hCd
              clear hdo
              go_wp2
              go_roundg (301 - (k + 1))
              case measure => omega
              case rel => exact ⟨k + 1, wv', D', C', rfl, by omega, hCd, Hdall.out, hI2, hLive2, hbln.trans hbd⟩
          · have hke : k = 301 := by omega
            subst hke
            go_wp2
            go_ret2
            exact ⟨cb, false, rfl, hbw, .inr ⟨rfl, few_not hLive⟩⟩

end Go.Proofs.Ytkobkilfbbalaaa

namespace Go.Proofs.Ytkobkilfbbalaaa
open Go.RowKit Go.Sort Go.Maps

theorem hown_small {w : World} {b n : Nat} {D : DataW Nat} {hr : Int → Option Int} (h : w.ownsMap Try.prog 3 (plainElem Try.prog 3) b n D) (hD : HeardIs D hr) : w.ownsMap Try.prog 3 (plainElem Try.prog 3) b 12 D := by
  obtain ⟨es, clock, h0, F, hn, hDe⟩ := h
  refine ⟨es, clock, h0, F, ?_, hDe⟩
  have hnd : ((es.toList.map (WideElems.rg Try.prog 3 (plainElem (H := Nat) Try.prog 3))).map Prod.fst).Nodup := by
    rw [List.nodup_iff_pairwise_ne, List.pairwise_map]
    exact Maps.fit_apart key_law F
  have hsub : (es.toList.map (WideElems.rg Try.prog 3 (plainElem (H := Nat) Try.prog 3))).map Prod.fst ⊆ (List.range 12).map (fun k : Nat => Lit.int .i64 (k : Int)) := by
    intro l hl
    obtain ⟨p, hp, rfl⟩ := List.mem_map.1 hl
    obtain ⟨x, hx, rfl⟩ := List.mem_map.1 hp
    obtain ⟨y, hy⟩ := F.reads x hx
    rw [WideElems.rg_of hy]
    obtain ⟨c, _, hc, _⟩ := Maps.keyOf_int_inv Try.underlying3 (WideElems.rd_key hy)
    have hh : Maps.has D (.int .i64 c) = true := by
      rw [hDe, has_eq, List.any_eq_true]
      exact ⟨_, mem_sorted.2 hp, by rw [WideElems.rg_of hy, hc]; simp [Lit.sameKey]⟩
    rw [hD.has] at hh
    obtain ⟨d, hd⟩ := Option.isSome_iff_exists.1 hh
    have := hD.dom c d hd
    rw [hc]
    exact List.mem_map.2 ⟨c.toNat, by simp; omega, by rw [Int.toNat_of_nonneg this.1]⟩
  have := hnd.length_le_of_subset hsub
  simpa using this

theorem lit_ne {a b : Int} (h : a ≠ b) : Lit.int .i64 a ≠ Lit.int .i64 b := fun e => by cases e; exact h rfl

theorem HeardIs.put {D : DataW Nat} {hr : Int → Option Int} (h : HeardIs D hr) (hm : IsMap D) {k c : Int} (hk : 0 ≤ k ∧ k < 12) (hc : 0 ≤ c ∧ c ≤ 1000) : HeardIs (D.put (.int .i64 k) (.lit (.int .i64 c))) (fun j => if j = k then some c else hr j) := by
  refine ⟨fun j => ?_, fun j d hj z => ?_, fun j d hj => ?_⟩
  · by_cases e : j = k
    · subst e; simp only [if_true]; exact has_put_same (k := .int .i64 j) hm trivial _
    · simp only [if_neg e]; rw [has_put_other (lit_ne e)]; exact h.has j
  · by_cases e : j = k
    · subst e
      simp only [if_true, Option.some.injEq] at hj
      subst hj
      exact atKey_put_same (k := .int .i64 j) hm trivial _ _
    · simp only [if_neg e] at hj
      rw [atKey_put_other (lit_ne e)]; exact h.at_ j d hj z
  · by_cases e : j = k
    · subst e
      simp only [if_true, Option.some.injEq] at hj
      omega
    · simp only [if_neg e] at hj
      exact h.dom j d hj
theorem HeardIs.del {D : DataW Nat} {hr : Int → Option Int} (h : HeardIs D hr) (k : Int) : HeardIs (D.del (.int .i64 k)) (fun j => if j = k then none else hr j) := by
  refine ⟨fun j => ?_, fun j d hj z => ?_, fun j d hj => ?_⟩
  · by_cases e : j = k
    · subst e; simp only [if_true]; exact has_del_same
    · simp only [if_neg e]; rw [has_del_other (lit_ne e)]; exact h.has j
  · by_cases e : j = k
    · subst e
      simp only [if_true] at hj
      cases hj
    · simp only [if_neg e] at hj
      rw [atKey_del_other (lit_ne e)]; exact h.at_ j d hj z
  · by_cases e : j = k
    · subst e
      simp only [if_true] at hj
      cases hj
    · simp only [if_neg e] at hj
      exact h.dom j d hj

theorem wf_small {c : Int} (h0 : 0 ≤ c) (h1 : c ≤ 1000) : (Lit.int .i64 c).wf = true := WalkArith.wf_i64 (by omega)

set_option maxRecDepth 100000 in
set_option maxHeartbeats 1000000 in
theorem hear_any (w : World) (b off hb : Nat) (hr : Int → Option Int) (k c : Int) (hc : w.cell? ⟨b, off + 1, none⟩ = some (.map (some hb))) (h : HMap w hb hr) (hk : 0 ≤ k ∧ k < 12) (hcc : 0 ≤ c ∧ c ≤ 1000) :
    Calls Try.prog 104 #[.pointer (some ⟨b, off, none⟩), .int .i64 k, .int .i64 c] w fun e w' => e = .returned (.tuple #[]) ∧ HMap w' hb (fun j => if j = k then some c else hr j) ∧ KeptF (fun i => i = hb) w w' := by
  obtain ⟨D, hown, hD⟩ := h
  have hkey := keyOf_int_mk (P := Try.prog) Try.underlying3 (wf_small hk.1 (by omega))
  go_enter Try.func104, Try.ntmps104
  go_wp2_with (at_mapUpdate; refine wpList_mapUpdate_own _ rfl _ _ _ 120 rfl 3 3 key_law Try.underlying120 _ hb 12 _ rfl hown (by unfold maxLen; omega) _ _ _ rfl rfl hkey _ [] (plainElem_int Try.underlying3 (wf_small hcc.1 hcc.2)) ?_)
  intro w1 hown1 hgrow1
  go_wp2
  go_end0
  exact ⟨rfl, ⟨_, hown_small hown1 (hD.put hown.isMap hk hcc), hD.put hown.isMap hk hcc⟩, KeptF.of_grown hgrow1 (fun i e _ => by cases e; rfl)⟩

set_option maxRecDepth 100000 in
set_option maxHeartbeats 1000000 in
theorem hearEnd_any (w : World) (b off hb : Nat) (hr : Int → Option Int) (k : Int) (hc : w.cell? ⟨b, off + 1, none⟩ = some (.map (some hb))) (h : HMap w hb hr) (hk : 0 ≤ k ∧ k < 12) :
    Calls Try.prog 105 #[.pointer (some ⟨b, off, none⟩), .int .i64 k] w fun e w' => e = .returned (.tuple #[]) ∧ HMap w' hb (fun j => if j = k then none else hr j) ∧ KeptF (fun i => i = hb) w w' := by
  obtain ⟨D, hown, hD⟩ := h
  have hkey := keyOf_int_mk (P := Try.prog) Try.underlying3 (wf_small hk.1 (by omega))
  go_enter Try.func105, Try.ntmps105
  go_wp2_with (at_delete; refine wpList_delete_own _ rfl _ _ 120 3 rfl 3 key_law Try.underlying120 _ hb 12 _ rfl hown _ _ rfl hkey ?_)
  intro w1 hown1 hturn1
  go_wp2
  go_end0
  exact ⟨rfl, ⟨_, hown_small hown1 (hD.del k), hD.del k⟩, KeptF.of_grown hturn1.grown (fun i e _ => by cases e; rfl)⟩

set_option maxRecDepth 100000 in
set_option maxHeartbeats 2000000 in
theorem horizon_any (w : World) (b off hb : Nat) (hr : Int → Option Int) (en : Int) (he : w.cell? ⟨b, off, none⟩ = some (.int .i64 en)) (hc : w.cell? ⟨b, off + 1, none⟩ = some (.map (some hb))) (h : HMap w hb hr) :
    Calls Try.prog 93 #[.pointer (some ⟨b, off, none⟩)] w fun e w' => e = .returned (.int .i64 (hz en hr)) ∧ Below w.heap.size w w' := by
  obtain ⟨D, hown, hD⟩ := h
  have hlb : b < w.heap.size := block_lt_of_cell he
  have hlh := hown.lt
  go_enter Try.func93, Try.ntmps93
  go_wp2_with (at_range; refine wpList_range_own _ rfl _ 120 rfl 3 3 key_law Try.underlying120 _ hb 12 _ rfl hown ?_)
  intro w0 hrg0 hg0 hs0
  go_wp2
  go_loopw [3, 5] (fun s3 _ wr => ∃ (least : Int) (left : Lit → Bool) (cnt : Nat), s3 = .int .i64 least ∧ wr.ranges Try.prog 3 (plainElem Try.prog 3) hb w.heap.size 12 D left cnt ∧ least ≤ en ∧ (∀ (k c : Int), hr k = some c → left (.int .i64 k) = true ∨ least ≤ c) ∧ (least = en ∨ ∃ k, hr k = some least) ∧ Below w.heap.size w wr) (fun _ _ wr => wr.rangeLeft hb w.heap.size)
  case atStart =>
    refine ⟨en, _, _, rfl, hrg0, Int.le_refl _, fun k c hk => .inl ?_, .inl rfl, ⟨hg0.os, hg0.tape, hg0.output, hg0.size, fun i hi => hg0.block i hi (by simp)⟩⟩
    rw [hD.has, hk]; rfl
  case round =>
    clear hrg0 hg0 hs0
    obtain ⟨least, left, cnt, rfl, hrg, hle, hlow, hone, hbl⟩ := hrel
    go_wp2_with (at_next; refine wpList_next_ranges_ii _ rfl _ rfl 3 3 .i64 .i64 key_law Try.underlying3 Try.underlying3 hb w.heap.size 12 D left cnt rfl hrg ?_ ?_)
    · intro _ hl0
      go_wp2
      go_ret
      refine ⟨?_, hbl⟩
      have hz1 := hz_is (en := en) (hr := hr) (fun k c hk => ⟨(hD.dom k c hk).1, (hD.dom k c hk).2.1⟩)
      have hz2 : IsHz en hr least := ⟨hle, fun k c hk => (hlow k c hk).elim (fun e => by rw [hl0] at e; cases e) id, hone⟩
      rw [hz1.unique hz2]; rfl
    · intro x c w1 cnt1 hwx hwc hlx hat hrg1 hlt hg1 hs1 hen
      have hb1 : Below w.heap.size w w1 := hbl.trans (KeptF.below (F := fun i => i = w.heap.size) (KeptF.of_grown hg1 (fun i e _ => by cases e; rfl)) hbl.size (fun i e => by omega))
      go_wp2
      go_roundw
      case rel =>
        have hh : Maps.has D (.int .i64 x) = true := has_true_of_atKey hat
        rw [hD.has] at hh
        obtain ⟨c', hc'⟩ := Option.isSome_iff_exists.1 hh
        have e1 := (hD.at_ x c' hc' .nil).symm.trans (hat .nil)
        simp only [DataW.lit.injEq, Lit.int.injEq, true_and] at e1
        subst e1
        refine ⟨if c' < least then c' else least, _, cnt1, rfl, hrg1, by split <;> omega, fun k d hk => ?_, ?_, hb1⟩
        · by_cases e : k = x
          · subst e
            rw [hc'] at hk
            cases hk
            right; split <;> omega
          · rcases hlow k d hk with h1 | h1
            · left
              simp only [h1, Bool.true_and, Bool.not_eq_true']
              exact sameKey_ne (lit_ne e)
            · right; split <;> omega
        · split
          · exact .inr ⟨x, hc'⟩
          · exact hone
      case measure => rw [hrg1.left_eq, hrg.left_eq]; exact hlt

end Go.Proofs.Ytkobkilfbbalaaa

namespace Go.Proofs.Ytkobkilfbbalaaa
open Go.RowKit Go.Sort Go.Maps

theorem PAt.least {w : World} {B : Nat} {p : Pr} (h : PAt w B p) : (∀ t, p.top = some t → ∀ a ∈ p.its, ¬ a.lt t) ∧ (p.top = none → p.its = []) :=
  ⟨fun _ ht => (h.top_least ht).2, fun ht => h.its_nil ht⟩

set_option maxRecDepth 100000 in
set_option maxHeartbeats 4000000 in
theorem leastProc_any (w : World) (B pb n : Nat) (ps : List Pr) (h : Procs w B pb n ps) (hn : ps.length = n) (h1 : 1 ≤ n) (h6 : n ≤ 6) :
    Calls Try.prog 52 #[.slice (some ⟨pb, 0, none⟩) n n] w fun e w' => ∃ (i : Nat) (p : Pr), e = .returned (.pointer (some ⟨p.qb, 0, none⟩)) ∧ ps[i]? = some p ∧ Upto ps n p ∧ Below w.heap.size w w' := by
  obtain ⟨p0, hp0⟩ := get_of_lt (d := ps) (k := 0) (by omega)
  have c0 := h.cell hp0
  have hP0 := h.each p0 (List.mem_of_getElem? hp0)
  have hU0 : Upto ps 1 p0 := Upto.one hp0 hP0.least.1 hP0.least.2
  have Hp0 : Hid (ps[0]? = some p0) := hp0
  have Hn : Hid (ps.length = n) := hn
  have hlp : pb < w.heap.size := h.arr.lt
  clear hn hp0
  by_cases hne : n = 1
  · subst hne
    go_enter Try.func52, Try.ntmps52
    go_wp2
    go_loopw [3, 16] (fun s3 s16 wr => s3 = .pointer (some ⟨p0.qb, 0, none⟩) ∧ s16 = .int .i64 0 ∧ Below w.heap.size w wr) (fun _ _ _ => 0)
    case atStart => exact ⟨rfl, rfl, Below.refl _ _⟩
    case round =>
      obtain ⟨rfl, rfl, hB⟩ := hrel
      go_wp2
      go_ret
      exact ⟨0, p0, rfl, Hp0.out, hU0, hB⟩
  · obtain ⟨m, rfl⟩ : ∃ m, n = m + 2 := ⟨n - 2, by omega⟩
    go_enter Try.func52, Try.ntmps52
    go_wp2
    go_loopw [3, 16] (fun s3 s16 wr => ∃ (i b : Nat) (p : Pr), s16 = .int .i64 i ∧ s3 = .pointer (some ⟨p.qb, 0, none⟩) ∧ i ≤ m + 1 ∧ ps[b]? = some p ∧ Upto ps (i + 1) p ∧ Below w.heap.size w wr) (fun _ s16 _ => m + 1 - (intOf s16).toNat)
    case atStart => exact ⟨0, 0, p0, rfl, rfl, by omega, Hp0.out, hU0, Below.refl _ _⟩
    case round =>
      clear c0 hP0 hU0
      obtain ⟨i, b, p, rfl, rfl, hi, hp, hU, hB⟩ := hrel
      have hPr : Procs wr B pb (m + 2) ps := h.grow (kept_of_below' hB)
      by_cases hlt : i < m + 1
      · obtain ⟨q, hq⟩ := get_of_lt (d := ps) (k := i + 1) (by rw [Hn.out]; omega)
        have cq := hPr.cell hq
        rw [Nat.add_comm] at cq
        have hPq := hPr.each q (List.mem_of_getElem? hq)
        have hPp := hPr.each p (List.mem_of_getElem? hp)
        have hlq := hPq.core.blk.lt
        have hlp2 := hPp.core.blk.lt
        have Hq : Hid (ps[i + 1]? = some q) := hq
        have Hp : Hid (ps[b]? = some p) := hp
        clear hq hp
        have hq1 := hPq.least.1
        have hq0 := hPq.least.2
        cases hq : q.top with
        | none =>
          cases hp : p.top with
          | none =>
            have hcq := pLeast_none wr B q hPq hq
            go_wp2_with fail
            refine hcq.mono ?_
            rintro e1 w1 ⟨rfl, g1⟩
            clear hcq cq
            have gA : Below w.heap.size w (w1.alloc (.cells #[.int .i64 0, .int .i64 0, .int .i64 0, .int .i64 0] 102)) := (hB.trans (g1.mono hB.size)).alloc (Nat.le_trans hB.size g1.size) _
            have hPpA := hPp.keep (kept_of_below' (g1.alloc g1.size (.cells #[.int .i64 0, .int .i64 0, .int .i64 0, .int .i64 0] 102))) (fun _ _ e => e)
            have hlpA := hPpA.core.blk.lt
            have hcp := pLeast_none _ B p hPpA hp
            go_wp2_with fail
            refine hcp.mono ?_
            rintro e2 w2 ⟨rfl, g2⟩
            clear hcp
            have gB : Below w.heap.size w (w2.alloc (.cells #[.int .i64 0, .int .i64 0, .int .i64 0, .int .i64 0] 102)) := (gA.trans (g2.mono gA.size)).alloc (Nat.le_trans gA.size g2.size) _
            go_wp2
            go_roundw
            case rel => exact ⟨i + 1, b, p, by go_num, rfl, by omega, Hp.out, hU.stay_none Hq.out (hq0 hq), gB⟩
            case measure => simp [intOf]; omega
          | some u =>
            have hcq := pLeast_none wr B q hPq hq
            go_wp2_with fail
            refine hcq.mono ?_
            rintro e1 w1 ⟨rfl, g1⟩
            clear hcq cq
            have gA : Below w.heap.size w (w1.alloc (.cells #[.int .i64 0, .int .i64 0, .int .i64 0, .int .i64 0] 102)) := (hB.trans (g1.mono hB.size)).alloc (Nat.le_trans hB.size g1.size) _
            have hPpA := hPp.keep (kept_of_below' (g1.alloc g1.size (.cells #[.int .i64 0, .int .i64 0, .int .i64 0, .int .i64 0] 102))) (fun _ _ e => e)
            have hlpA := hPpA.core.blk.lt
            have hcp := pLeast_some _ B p u hPpA hp
            go_wp2_with fail
            refine hcp.mono ?_
            rintro e2 w2 ⟨rfl, g2⟩
            clear hcp
            have gB : Below w.heap.size w (w2.alloc (.cells #[.int .i64 u.t, .int .i64 u.f, .int .i64 u.s, .int .i64 u.l] 102)) := (gA.trans (g2.mono gA.size)).alloc (Nat.le_trans gA.size g2.size) _
            go_wp2
            go_roundw
            case rel => exact ⟨i + 1, b, p, by go_num, rfl, by omega, Hp.out, hU.stay_none Hq.out (hq0 hq), gB⟩
            case measure => simp [intOf]; omega
        | some t =>
          cases hp : p.top with
          | none =>
            have hcq := pLeast_some wr B q t hPq hq
            go_wp2_with fail
            refine hcq.mono ?_
            rintro e1 w1 ⟨rfl, g1⟩
            clear hcq cq
            have gA : Below w.heap.size w (w1.alloc (.cells #[.int .i64 t.t, .int .i64 t.f, .int .i64 t.s, .int .i64 t.l] 102)) := (hB.trans (g1.mono hB.size)).alloc (Nat.le_trans hB.size g1.size) _
            have hPpA := hPp.keep (kept_of_below' (g1.alloc g1.size (.cells #[.int .i64 t.t, .int .i64 t.f, .int .i64 t.s, .int .i64 t.l] 102))) (fun _ _ e => e)
            have hlpA := hPpA.core.blk.lt
            have hcp := pLeast_none _ B p hPpA hp
            go_wp2_with fail
            refine hcp.mono ?_
            rintro e2 w2 ⟨rfl, g2⟩
            clear hcp
            have gB : Below w.heap.size w (w2.alloc (.cells #[.int .i64 0, .int .i64 0, .int .i64 0, .int .i64 0] 102)) := (gA.trans (g2.mono gA.size)).alloc (Nat.le_trans gA.size g2.size) _
            go_wp2
            go_roundw
            case rel => exact ⟨i + 1, i + 1, q, by go_num, rfl, by omega, Hq.out, hU.first hp Hq.out hq (hq1 t hq), gB⟩
            case measure => simp [intOf]; omega
          | some u =>
            have hcq := pLeast_some wr B q t hPq hq
            go_wp2_with fail
            refine hcq.mono ?_
            rintro e1 w1 ⟨rfl, g1⟩
            clear hcq cq
            have gA : Below w.heap.size w (w1.alloc (.cells #[.int .i64 t.t, .int .i64 t.f, .int .i64 t.s, .int .i64 t.l] 102)) := (hB.trans (g1.mono hB.size)).alloc (Nat.le_trans hB.size g1.size) _
            have hPpA := hPp.keep (kept_of_below' (g1.alloc g1.size (.cells #[.int .i64 t.t, .int .i64 t.f, .int .i64 t.s, .int .i64 t.l] 102))) (fun _ _ e => e)
            have hlpA := hPpA.core.blk.lt
            have hcp := pLeast_some _ B p u hPpA hp
            go_wp2_with fail
            refine hcp.mono ?_
            rintro e2 w2 ⟨rfl, g2⟩
            clear hcp
            have gB : Below w.heap.size w (w2.alloc (.cells #[.int .i64 u.t, .int .i64 u.f, .int .i64 u.s, .int .i64 u.l] 102)) := (gA.trans (g2.mono gA.size)).alloc (Nat.le_trans gA.size g2.size) _
            have hx : Blk (w2.alloc (.cells #[.int .i64 u.t, .int .i64 u.f, .int .i64 u.s, .int .i64 u.l] 102)) w1.heap.size #[.int .i64 t.t, .int .i64 t.f, .int .i64 t.s, .int .i64 t.l] 102 := Blk.alloc (Blk.keep (show Blk (w1.alloc (.cells #[.int .i64 t.t, .int .i64 t.f, .int .i64 t.s, .int .i64 t.l] 102)) w1.heap.size #[.int .i64 t.t, .int .i64 t.f, .int .i64 t.s, .int .i64 t.l] 102 from heap_alloc_new w1 _) (kept_of_below' g2) (fun e => e)) _
            have x0 : (w2.alloc (.cells #[.int .i64 u.t, .int .i64 u.f, .int .i64 u.s, .int .i64 u.l] 102)).cell? ⟨w1.heap.size, 0, none⟩ = some (.int .i64 t.t) := hx.cell 0
            have x1 : (w2.alloc (.cells #[.int .i64 u.t, .int .i64 u.f, .int .i64 u.s, .int .i64 u.l] 102)).cell? ⟨w1.heap.size, 1, none⟩ = some (.int .i64 t.f) := hx.cell 1
            have x2 : (w2.alloc (.cells #[.int .i64 u.t, .int .i64 u.f, .int .i64 u.s, .int .i64 u.l] 102)).cell? ⟨w1.heap.size, 2, none⟩ = some (.int .i64 t.s) := hx.cell 2
            have x3 : (w2.alloc (.cells #[.int .i64 u.t, .int .i64 u.f, .int .i64 u.s, .int .i64 u.l] 102)).cell? ⟨w1.heap.size, 3, none⟩ = some (.int .i64 t.l) := hx.cell 3
            have hlx : w1.heap.size < w2.heap.size := by have := g2.size; simp at this; omega
            have hcb := itemBefore_any t u (w2.alloc (.cells #[.int .i64 u.t, .int .i64 u.f, .int .i64 u.s, .int .i64 u.l] 102))
            cases hv : t.aheadB u with
            | true =>
              have Hv : Hid (t.lt u) := (It.aheadB_iff t u).1 hv
              rw [hv] at hcb
              clear hv
              go_wp2_with fail
              refine hcb.mono ?_
              rintro e3 w3 ⟨rfl, g3⟩
              clear hcb x0 x1 x2 x3 hx
              have gC : Below w.heap.size w w3 := gB.trans (g3.mono gB.size)
              go_wp2
              go_roundw
              case rel => exact ⟨i + 1, i + 1, q, by go_num, rfl, by omega, Hq.out, hU.turn hp Hq.out hq (hq1 t hq) Hv.out, gC⟩
              case measure => simp [intOf]; omega
            | false =>
              have Hv : Hid (¬ t.lt u) := fun h => by rw [(It.aheadB_iff t u).2 h] at hv; cases hv
              rw [hv] at hcb
              clear hv
              go_wp2_with fail
              refine hcb.mono ?_
              rintro e3 w3 ⟨rfl, g3⟩
              clear hcb x0 x1 x2 x3 hx
              have gC : Below w.heap.size w w3 := gB.trans (g3.mono gB.size)
              go_wp2
              go_roundw
              case rel => exact ⟨i + 1, b, p, by go_num, rfl, by omega, Hp.out, hU.stay hp Hq.out (hq1 t hq) Hv.out, gC⟩
              case measure => simp [intOf]; omega
      · have hie : i = m + 1 := by omega
        subst hie
        go_wp2
        go_ret
        exact ⟨b, p, rfl, hp, hU, hB⟩

end Go.Proofs.Ytkobkilfbbalaaa

