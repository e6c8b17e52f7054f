/-
  The program: Step and See.
  The program: slices.Clone at its three types.
  The program: a model, kept.
  The program: doEvents.
  The reference: Check.
  The program: Check answers as the document asks.
-/
import Derived.Test.YtaieackeflmhgaaSafe13
import Derived.Deep.LoopGhost
import Derived.Test.YtaieackeflmhgaaSafe12
import Derived.Test.YtaieackeflmhgaaSafe10
import Derived.Test.YtaieackeflmhgaaSafe9
import Derived.Test.YtaieackeflmhgaaSafe8
namespace Go.Proofs.Ytaieackeflmhgaa
open Go.RowKit Go.Sort Go.Maps

set_option maxRecDepth 100000 in
set_option maxHeartbeats 2000000 in
theorem has_any (w : World) (nb : Nat) (m : Mdl) (en : Int) (s : NS) (V : NV) (x : Int) (h : NetAt w nb m en s V) (hm : Right m) :
    Calls Try.prog 55 #[.pointer (some ⟨nb, 0, none⟩), .int .i64 x] w fun e w' => e = .returned (.bool (isP m x)) ∧ Below w.heap.size w w' := by
  have n0 : w.cell? ⟨nb, 0, none⟩ = some (.int .i64 m.procs) := h.blk.cell 0
  have n1 : w.cell? ⟨nb, 1, none⟩ = some (.int .i64 m.states) := h.blk.cell 1
  have n2 : w.cell? ⟨nb, 2, none⟩ = some (.int .i64 m.loads) := h.blk.cell 2
  have n3 : w.cell? ⟨nb, 3, none⟩ = some V.lv := h.blk.cell 3
  have n4 : w.cell? ⟨nb, 4, none⟩ = some V.rv := h.blk.cell 4
  have n5 : w.cell? ⟨nb, 5, none⟩ = some (.slice none 0 0) := h.blk.cell 5
  have hl := h.blk.lt
  have hp := isProc_any m hm.lim V.lv V.rv (.slice none 0 0) x w
  go_enter Try.func55, Try.ntmps55
  go_wp2_with fail
  refine hp.mono ?_
  rintro e1 w1 ⟨rfl, hb⟩
  clear hp
  go_wp2
  all_goals
    go_ret
    exact ⟨rfl, hb⟩

theorem isP_iff {m : Mdl} {x : Int} : isP m x = true ↔ 0 ≤ x ∧ x < m.procs := by
  unfold isP withinB
  simp only [Bool.and_eq_true, decide_eq_true_eq]
  omega

set_option maxRecDepth 100000 in
set_option maxHeartbeats 4000000 in
theorem step_any (w : World) (nb : Nat) (m : Mdl) (en : Int) (F : Nat → List It) (C : Nat → List Int) (N : Nat → Nat) (s : NS) (V : NV) (x : Int) (E : Env m en F C) (h : NetAt w nb m en s V) (hG : Good m en F N s) :
    Calls Try.prog 28 #[.pointer (some ⟨nb, 0, none⟩), .int .i64 x] w fun e w' => ∃ (b : Bool) (s' : NS) (V' : NV), e = .returned (.bool b) ∧ NGo w w' nb m en s' V V' ∧ ((isP m x = false ∧ b = false ∧ s' = s) ∨ (0 ≤ x ∧ x < m.procs ∧ Stepped m en s s' x.toNat b)) := by
  have hhas := has_any w nb m en s V x h E.hm
  have hl := h.blk.lt
  have hp1 := E.hm.lim.p1
  have hp2 := E.hm.lim.p2
  cases hx : isP m x with
  | false =>
    rw [hx] at hhas
    go_enter Try.func28, Try.ntmps28
    go_wp2_with fail
    refine hhas.mono ?_
    rintro e1 w1 ⟨rfl, hb⟩
    clear hhas
    go_wp2
    go_ret
    exact ⟨false, s, V, rfl, (NGo.refl h).grow (kept_of_below' hb), .inl ⟨trivial, rfl, rfl⟩⟩
  | true =>
    rw [hx] at hhas
    obtain ⟨hx0, hx1⟩ := isP_iff.1 hx
    obtain ⟨i, hi⟩ : ∃ i : Nat, x = (i : Int) := ⟨x.toNat, by omega⟩
    subst hi
    have hin : i < np m := by unfold np; omega
    go_enter Try.func28, Try.ntmps28
    go_wp2_with fail
    refine hhas.mono ?_
    rintro e1 w1 ⟨rfl, hb⟩
    clear hhas hx
    have hg1 := (NGo.refl h).grow (kept_of_below' hb)
    go_wp2
    go_loopg [5] (rest en s + 1) (fun gk s5 wr => ∃ (k : Nat) (V' : NV) (N' : Nat → Nat), s5 = .bool (decide (0 < k)) ∧ NGo w wr nb m en (itr m en i k s) V V' ∧ (∀ j, j < k → goOnB m en (itr m en i j s) i = true) ∧ NInv m en F N' (itr m en i k s) ∧ rest en (itr m en i k s) < gk)
    case atStart => exact ⟨0, V, N, rfl, hg1, fun j hj => by omega, hG.1, Nat.lt_succ_self _⟩
    case round =>
      clear hg1
      obtain ⟨k, V', N', rfl, hg, hB, hI, hrk⟩ := hrel
      have hN := hg.at_
      obtain ⟨p, hp⟩ := get_of_lt (d := V'.ps) (k := i) (by rw [hN.plen]; exact hin)
      obtain ⟨a, ha⟩ := get_of_lt (d := (itr m en i k s).ps) (k := i) (by rw [hN.slen]; exact hin)
      have hrs := rest_itr E k hG.1 hin hB
      have hsane := sane_of E hI (by have := hG.2; omega) ha
      have hgo := goOn_any wr nb m en (itr m en i k s) V' i p a hN E.hm E.hen0 E.hen hp ha hsane
      have c6 : wr.cell? ⟨nb, 6, none⟩ = some (.slice (some ⟨V'.pb, 0, none⟩) (np m) (np m)) := hN.blk.cell 6
      have cp := hN.procs.cell hp
      have hln := hN.blk.lt
      have hlp := hN.procs.arr.lt
      have hil : (i : Int) < (np m : Int) := by omega
      obtain ⟨N1, hW⟩ := hI.went E.hm E.hen0 E.hen E.hF ha
      cases hgb : goOnB m en (itr m en i k s) i with
      | false =>
        rw [hgb] at hgo
        have Hst : Hid (Stepped m en s (itr m en i k s) i (decide (0 < k))) := ⟨k, hB, hgb, rfl, rfl⟩
        have hsame := calm_same hgb
        rw [hsame] at hgo
        clear hgb hsame hW
        go_wp2_with fail
        refine hgo.mono ?_
        rintro e2 w2 ⟨rfl, V2, hg2, _⟩
        clear hgo c6 cp
        go_wp2
        go_ret
        exact ⟨_, _, V2, rfl, hg.trans hg2, .inr ⟨hx0, hx1, by simpa using Hst.out⟩⟩
      | true =>
        rw [hgb] at hgo
        have hfall := rest_falls E.hm E.hen0 E.hen E.hF E.len hI hgb
        have Hgb : Hid (goOnB m en (itr m en i k s) i = true) := hgb
        rw [← itr_succ] at hgo hfall
        have hW1 := hW.inv
        rw [← itr_succ] at hW1
        clear hgb hW
        go_wp2_with fail
        refine hgo.mono ?_
        rintro e2 w2 ⟨rfl, V2, hg2, _⟩
        clear hgo c6 cp
        go_wp2
        go_roundg (rest en (itr m en i (k + 1) s) + 1)
        case measure => omega
        case rel =>
          refine ⟨k + 1, V2, N1, by simp, hg.trans hg2, fun j hj => ?_, hW1, Nat.lt_succ_self _⟩
          by_cases e : j = k
          · subst e; exact Hgb.out
          · exact hB j (by omega)

set_option maxRecDepth 100000 in
set_option maxHeartbeats 4000000 in
theorem see_any (w : World) (nb : Nat) (m : Mdl) (en : Int) (s : NS) (V : NV) (x : Int) (h : NetAt w nb m en s V) (hm : Right m) (hdl : ∀ (i : Nat) (a : NP), s.ps[i]? = some a → a.dn.length ≤ 5000) :
    Calls Try.prog 29 #[.pointer (some ⟨nb, 0, none⟩), .int .i64 x] w fun e w' => Below w.heap.size w w' ∧ ((isP m x = false ∧ e = .returned (.tuple #[.int .i64 0, .slice none 0 0])) ∨ (0 ≤ x ∧ x < m.procs ∧ ∃ (a : NP) (ao : Option Addr) (cap : Nat), s.ps[x.toNat]? = some a ∧ e = .returned (.tuple #[.int .i64 a.st, .slice ao a.dn.length cap]) ∧ RowsIn 5 dnC w.heap.size w' (.slice ao a.dn.length cap) a.dn)) := by
  have hhas := has_any w nb m en s V x h hm
  have hl := h.blk.lt
  have hp1 := hm.lim.p1
  have hp2 := hm.lim.p2
  cases hx : isP m x with
  | false =>
    rw [hx] at hhas
    go_enter Try.func29, Try.ntmps29
    go_wp2_with fail
    refine hhas.mono ?_
    rintro e1 w1 ⟨rfl, hb⟩
    clear hhas
    go_wp2
    go_ret2
    exact ⟨hb, .inl ⟨trivial, rfl⟩⟩
  | true =>
    rw [hx] at hhas
    obtain ⟨hx0, hx1⟩ := isP_iff.1 hx
    obtain ⟨i, hi⟩ : ∃ i : Nat, x = (i : Int) := ⟨x.toNat, by omega⟩
    subst hi
    have hin : i < np m := by unfold np; omega
    obtain ⟨p, hp⟩ := get_of_lt (d := V.ps) (k := i) (by rw [h.plen]; exact hin)
    obtain ⟨a, ha⟩ := get_of_lt (d := s.ps) (k := i) (by rw [h.slen]; exact hin)
    have hrl := h.rel i p a hp ha
    go_enter Try.func29, Try.ntmps29
    go_wp2_with fail
    refine hhas.mono ?_
    rintro e1 w1 ⟨rfl, hb⟩
    clear hhas hx
    have hN := h.grow (kept_of_below' hb)
    have hPp := hN.procs.each p (List.mem_of_getElem? hp)
    have c6 : w1.cell? ⟨nb, 6, none⟩ = some (.slice (some ⟨V.pb, 0, none⟩) (np m) (np m)) := hN.blk.cell 6
    have cp := hN.procs.cell hp
    have c9 := hPp.cells.2.1
    rw [hrl.st] at c9
    have hln := hN.blk.lt
    have hlp := hN.procs.arr.lt
    have hlq := hPp.core.blk.lt
    have hil : (i : Int) < (np m : Int) := by omega
    have htold := told_any w1.drew V.B p (hPp.keep (KeptF.drew (KeptF.refl (fun _ => False) w1)) (fun _ _ e => e)) (by rw [hrl.dn]; exact hdl i a ha)
    rw [hrl.dn] at htold
    have Ha : Hid (s.ps[i]? = some a) := ha
    clear hp ha
    go_wp2
    go_region_held3 (fun W => W.cell? ⟨nb, 6, none⟩ = some (.slice (some ⟨V.pb, 0, none⟩) (np m) (np m)) ∧ W.cell? ⟨V.pb, i, none⟩ = some (.pointer (some ⟨p.qb, 0, none⟩)) ∧ W.cell? ⟨p.qb, 9, none⟩ = some (.int .i64 a.st)) (first | assumption | exact ⟨c6, cp, c9⟩ | exact ⟨d6, dp, d9⟩) ((refine htold.mono ?_; rintro e3 w3 ⟨ao, cap, rfl, hb3, hr3⟩; have d6 := (hb3.cell (p := ⟨nb, 6, none⟩) hln).trans c6; have dp := (hb3.cell (p := ⟨V.pb, i, none⟩) hlp).trans cp; have d9 := (hb3.cell (p := ⟨p.qb, 9, none⟩) hlq).trans c9))
    all_goals
      go_wp2
      go_ret2
      refine ⟨?_, .inr ⟨hx0, hx1, a, ao, cap, by simpa using Ha.out, rfl, ?_⟩⟩
      · have b1 : Below w.heap.size w1 w1.drew := ⟨rfl, rfl, rfl, Nat.le_refl _, fun _ _ => rfl⟩
        exact hb.trans (b1.trans (hb3.mono hb.size))
      · exact hr3.mono hb.size

end Go.Proofs.Ytaieackeflmhgaa

namespace Go.Proofs.Ytaieackeflmhgaa
open Go.RowKit Go.Sort Go.Maps

theorem eql_slice {P : Program} {t e : TypeId} (ht : P.underlying t = some (.slice e)) (w : World) (ao : Option Addr) (n c : Nat) : (binOp .eql t (.slice ao n c) (.slice none 0 0)).run P w = .ok (.bool ao.isNone) w := by
  have h : ∀ d : Nat, (Op.equalIn (d + 1) t (.slice ao n c) (.slice none 0 0)).run P w = .ok ao.isNone w := fun d => by
    cases ao <;> simp [Op.equalIn, run_underlying ht]
  simp only [binOp]
  simp [Op.equal, Op.maxDepth, h 9999]

theorem RowsAt.flatC {α : Type} {E : Enc α} {w : World} {B : Nat} {a : Addr} {len cap : Nat} {l : List α} (h : RowsAt E.sz E.enc w B (.slice (some a) len cap) l) : ∀ o u, (flat E l)[o]? = some u → w.cell? (a.add o) = some u := by
  intro o u hu
  have ho := get_lt hu
  rw [flat_length] at ho
  have hpos := E.pos
  have hj : o / E.sz < l.length := Nat.div_lt_of_lt_mul (by rw [Nat.mul_comm]; exact ho)
  obtain ⟨x, hx⟩ := get_of_lt hj
  have hk : o % E.sz < E.sz := Nat.mod_lt _ hpos
  have e : o / E.sz * E.sz + o % E.sz = o := by rw [Nat.mul_comm]; exact Nat.div_add_mod o E.sz
  have h1 := flat_get E l (o / E.sz) x (o % E.sz) hx hk
  rw [e, hu] at h1
  obtain ⟨b, off, hao, _, hc⟩ := RowsAt.at_ h hx
  simp only [Option.some.injEq] at hao
  subst hao
  have h2 := hc (o % E.sz) u h1.symm
  rw [Nat.add_assoc, e] at h2
  unfold Addr.add
  split
  · rename_i e0
    subst e0
    simpa using h2
  · exact h2

theorem und_lk : Try.prog.underlying 27 = some (.slice 94) := by kernel_rfl
set_option maxRecDepth 100000 in
set_option maxHeartbeats 2000000 in
theorem clone_lk (w : World) (Bm : Nat) (v : Value) (l : List MLink) (h : RowsAt lkE.sz lkE.enc w Bm v l) (hBm : Bm ≤ w.heap.size) (hl : l.length ≤ 1000) :
    Calls Try.prog 90 #[v] w fun e w' => ∃ v' : Value, e = .returned v' ∧ Own lkE w' w.heap.size v' l ∧ Below w.heap.size w w' := by
  obtain ⟨ao, cap, hv, hcap⟩ := RowsAt.form h
  subst hv
  have heq := fun W => eql_slice und_lk W ao l.length cap
  obtain ⟨i0, hi0, hi1, hi2, hi3⟩ := info_parts info_lk
  cases ao with
  | none =>
    have hnil : l = [] := by
      cases l with
      | nil => rfl
      | cons x l' =>
        obtain ⟨b, off, hb, _⟩ := RowsAt.at_ h (j := 0) (x := x) rfl
        cases hb
    have Hnil : Hid (l = []) := hnil
    clear hnil
    simp only [Option.isNone_none] at heq
    go_enter Try.func90, Try.ntmps90
    go_wp2
    go_ret
    refine ⟨_, rfl, ?_, Below.refl _ _⟩
    rw [Hnil.out]
    exact Own.nil _ _ _
  | some a =>
    simp only [Option.isNone_some] at heq
    have hown0 : (w.alloc (.cells #[] 94)).ownsRow w.heap.size 94 3 (.slice (some ⟨w.heap.size, 0, none⟩) 0 0) 0 (flat lkE []) := Own.madeNil lkE w w.heap.size 0 #[] (Nat.le_refl _) (Nat.zero_le _) rfl
    have hb0 : Below w.heap.size w (w.alloc (.cells #[] 94)) := (Below.refl _ _).alloc (Nat.le_refl _) _
    have hcells := RowsAt.flatC (E := lkE) (h.keep (hb0.mono hBm))
    go_enter Try.func90, Try.ntmps90
    go_wp2_with (at_builtin; (refine wpList_append_ownX rfl (.tmp 5) (.tmp 6) 27 rfl w.heap.size 94 i0 _ 3 24 und_lk hi0 hi1 hi2 hi3 rfl (by decide) (.slice (some ⟨w.heap.size, 0, none⟩) 0 0) 0 (flat lkE []) rfl ?_ a l.length cap (flat lkE l) rfl ?_ ?_ ?_ ?_ ?_ ?_ ?_))
    · exact hown0
    · exact flat_length lkE l
    · exact hcells
    · exact flat_one lkE l
    · unfold maxLen; omega
    · omega
    · exact hb0.size
    · intro v2 w2 hown2 hgr2 hfr2
      have hb2 : Below w.heap.size w w2 := hb0.trans (KeptF.below (F := fun i => i = w.heap.size) (KeptF.of_grown hgr2 (fun k e _ => by simp [Value.ownBlock] at e; exact e.symm)) hb0.size (fun i hi => by omega))
      have hO : Own lkE w2 w.heap.size v2 l := by
        exact hown2
      clear hown2 hgr2 hfr2 hown0 hcells heq
      go_wp2
      go_ret
      exact ⟨_, rfl, hO, hb2⟩

theorem und_rl : Try.prog.underlying 28 = some (.slice 103) := by kernel_rfl
set_option maxRecDepth 100000 in
set_option maxHeartbeats 2000000 in
theorem clone_rl (w : World) (Bm : Nat) (v : Value) (l : List RuleS) (h : RowsAt rlE.sz rlE.enc w Bm v l) (hBm : Bm ≤ w.heap.size) (hl : l.length ≤ 1000) :
    Calls Try.prog 91 #[v] w fun e w' => ∃ v' : Value, e = .returned v' ∧ Own rlE w' w.heap.size v' l ∧ Below w.heap.size w w' := by
  obtain ⟨ao, cap, hv, hcap⟩ := RowsAt.form h
  subst hv
  have heq := fun W => eql_slice und_rl W ao l.length cap
  obtain ⟨i0, hi0, hi1, hi2, hi3⟩ := info_parts info_rl
  cases ao with
  | none =>
    have hnil : l = [] := by
      cases l with
      | nil => rfl
      | cons x l' =>
        obtain ⟨b, off, hb, _⟩ := RowsAt.at_ h (j := 0) (x := x) rfl
        cases hb
    have Hnil : Hid (l = []) := hnil
    clear hnil
    simp only [Option.isNone_none] at heq
    go_enter Try.func91, Try.ntmps91
    go_wp2
    go_ret
    refine ⟨_, rfl, ?_, Below.refl _ _⟩
    rw [Hnil.out]
    exact Own.nil _ _ _
  | some a =>
    simp only [Option.isNone_some] at heq
    have hown0 : (w.alloc (.cells #[] 103)).ownsRow w.heap.size 103 5 (.slice (some ⟨w.heap.size, 0, none⟩) 0 0) 0 (flat rlE []) := Own.madeNil rlE w w.heap.size 0 #[] (Nat.le_refl _) (Nat.zero_le _) rfl
    have hb0 : Below w.heap.size w (w.alloc (.cells #[] 103)) := (Below.refl _ _).alloc (Nat.le_refl _) _
    have hcells := RowsAt.flatC (E := rlE) (h.keep (hb0.mono hBm))
    go_enter Try.func91, Try.ntmps91
    go_wp2_with (at_builtin; (refine wpList_append_ownX rfl (.tmp 5) (.tmp 6) 28 rfl w.heap.size 103 i0 _ 5 56 und_rl hi0 hi1 hi2 hi3 rfl (by decide) (.slice (some ⟨w.heap.size, 0, none⟩) 0 0) 0 (flat rlE []) rfl ?_ a l.length cap (flat rlE l) rfl ?_ ?_ ?_ ?_ ?_ ?_ ?_))
    · exact hown0
    · exact flat_length rlE l
    · exact hcells
    · exact flat_one rlE l
    · unfold maxLen; omega
    · omega
    · exact hb0.size
    · intro v2 w2 hown2 hgr2 hfr2
      have hb2 : Below w.heap.size w w2 := hb0.trans (KeptF.below (F := fun i => i = w.heap.size) (KeptF.of_grown hgr2 (fun k e _ => by simp [Value.ownBlock] at e; exact e.symm)) hb0.size (fun i hi => by omega))
      have hO : Own rlE w2 w.heap.size v2 l := by
        exact hown2
      clear hown2 hgr2 hfr2 hown0 hcells heq
      go_wp2
      go_ret
      exact ⟨_, rfl, hO, hb2⟩

theorem und_et : Try.prog.underlying 98 = some (.slice 101) := by kernel_rfl
set_option maxRecDepth 100000 in
set_option maxHeartbeats 2000000 in
theorem clone_et (w : World) (Bm : Nat) (v : Value) (l : List MEmit) (h : RowsAt etE.sz etE.enc w Bm v l) (hBm : Bm ≤ w.heap.size) (hl : l.length ≤ 1000) :
    Calls Try.prog 92 #[v] w fun e w' => ∃ v' : Value, e = .returned v' ∧ Own etE w' w.heap.size v' l ∧ Below w.heap.size w w' := by
  obtain ⟨ao, cap, hv, hcap⟩ := RowsAt.form h
  subst hv
  have heq := fun W => eql_slice und_et W ao l.length cap
  obtain ⟨i0, hi0, hi1, hi2, hi3⟩ := info_parts info_et
  cases ao with
  | none =>
    have hnil : l = [] := by
      cases l with
      | nil => rfl
      | cons x l' =>
        obtain ⟨b, off, hb, _⟩ := RowsAt.at_ h (j := 0) (x := x) rfl
        cases hb
    have Hnil : Hid (l = []) := hnil
    clear hnil
    simp only [Option.isNone_none] at heq
    go_enter Try.func92, Try.ntmps92
    go_wp2
    go_ret
    refine ⟨_, rfl, ?_, Below.refl _ _⟩
    rw [Hnil.out]
    exact Own.nil _ _ _
  | some a =>
    simp only [Option.isNone_some] at heq
    have hown0 : (w.alloc (.cells #[] 101)).ownsRow w.heap.size 101 3 (.slice (some ⟨w.heap.size, 0, none⟩) 0 0) 0 (flat etE []) := Own.madeNil etE w w.heap.size 0 #[] (Nat.le_refl _) (Nat.zero_le _) rfl
    have hb0 : Below w.heap.size w (w.alloc (.cells #[] 101)) := (Below.refl _ _).alloc (Nat.le_refl _) _
    have hcells := RowsAt.flatC (E := etE) (h.keep (hb0.mono hBm))
    go_enter Try.func92, Try.ntmps92
    go_wp2_with (at_builtin; (refine wpList_append_ownX rfl (.tmp 5) (.tmp 6) 98 rfl w.heap.size 101 i0 _ 3 24 und_et hi0 hi1 hi2 hi3 rfl (by decide) (.slice (some ⟨w.heap.size, 0, none⟩) 0 0) 0 (flat etE []) rfl ?_ a l.length cap (flat etE l) rfl ?_ ?_ ?_ ?_ ?_ ?_ ?_))
    · exact hown0
    · exact flat_length etE l
    · exact hcells
    · exact flat_one etE l
    · unfold maxLen; omega
    · omega
    · exact hb0.size
    · intro v2 w2 hown2 hgr2 hfr2
      have hb2 : Below w.heap.size w w2 := hb0.trans (KeptF.below (F := fun i => i = w.heap.size) (KeptF.of_grown hgr2 (fun k e _ => by simp [Value.ownBlock] at e; exact e.symm)) hb0.size (fun i hi => by omega))
      have hO : Own etE w2 w.heap.size v2 l := by
        exact hown2
      clear hown2 hgr2 hfr2 hown0 hcells heq
      go_wp2
      go_ret
      exact ⟨_, rfl, hO, hb2⟩

end Go.Proofs.Ytaieackeflmhgaa

namespace Go.Proofs.Ytaieackeflmhgaa
open Go.RowKit Go.Sort Go.Maps

theorem ruleS_of : ∀ {R : List RuleV}, (∀ x ∈ R, ∃ ao n c, x.ev = .slice ao n c) → ∃ RS : List RuleS, RS.map RuleS.v = R
  | [], _ => ⟨[], rfl⟩
  | x :: R, h => by
    obtain ⟨RS, hRS⟩ := ruleS_of (R := R) (fun y hy => h y (by simp [hy]))
    obtain ⟨ao, n, c, hx⟩ := h x (by simp)
    refine ⟨⟨x.r, ao, n, c⟩ :: RS, ?_⟩
    rw [List.map_cons, hRS]
    have : RuleS.v ⟨x.r, ao, n, c⟩ = x := by
      obtain ⟨r, ev⟩ := x
      simp only at hx
      subst hx
      rfl
    rw [this]

set_option maxRecDepth 100000 in
set_option maxHeartbeats 16000000 in
theorem kept_any (w : World) (Bm : Nat) (lv rv sv : Value) (m : Mdl) (R : List RuleV) (hM : ModelAt w Bm lv rv sv m R) (hBm : Bm ≤ w.heap.size) (hm : Right m) :
    Calls Try.prog 62 #[.agg #[.int .i64 m.procs, .int .i64 m.states, .int .i64 m.loads, lv, rv, sv]] w fun e w' => ∃ (lv' rv' : Value) (RS : List RuleS), e = .returned (.agg #[.int .i64 m.procs, .int .i64 m.states, .int .i64 m.loads, lv', rv', .slice none 0 0]) ∧ ModOwn w' w.heap.size lv' rv' m RS ∧ Below w.heap.size w w' := by
  obtain ⟨ao2, cap2, hsv, hcap2⟩ := RowsAt.form hM.starts
  subst hsv
  obtain ⟨ao1, cap1, hlv, hcap1⟩ := RowsAt.form hM.links
  subst hlv
  obtain ⟨ao3, cap3, hrv, hcap3⟩ := RowsAt.form hM.rules.1
  subst hrv
  obtain ⟨RS, hRS⟩ := ruleS_of (R := R) (fun x hx => by
    obtain ⟨ao, cap, h1, _⟩ := RowsAt.form (hM.rules.2 x hx)
    exact ⟨ao, _, cap, h1⟩)
  have hRr : RS.map RuleS.r = m.rules := by rw [← hM.same, ← hRS, List.map_map]; rfl
  have hRlen : RS.length = R.length := by rw [← hRS, List.length_map]
  have hnl := hm.lim.nl
  have hnr : R.length ≤ 40 := by rw [hM.rlen]; exact hm.lim.nr
  have hrows : RowsAt rlE.sz rlE.enc w Bm (.slice ao3 R.length cap3) RS := by
    obtain ⟨ao, cap, h1, h2, h3⟩ := hM.rules.1
    refine ⟨ao, cap, by rw [hRlen]; exact h1, by rw [hRlen]; exact h2, fun hne => ?_⟩
    obtain ⟨b, off, h4, h5, h6⟩ := h3 (fun e => hne (by rw [e] at hRlen; exact List.eq_nil_of_length_eq_zero hRlen))
    refine ⟨b, off, h4, h5, fun j x k u hx hu => h6 j x.v k u (by rw [← hRS, List.getElem?_map, hx]; rfl) hu⟩
  have hems : ∀ x ∈ RS, EmitsAt w Bm x.ev x.r.es := fun x hx => hM.rules.2 x.v (by rw [← hRS]; exact List.mem_map_of_mem hx)
  have heml : ∀ x ∈ RS, x.r.es.length ≤ 4 := fun x hx => by
    have h1 : x.r ∈ m.rules := by rw [← hRr]; exact List.mem_map_of_mem hx
    obtain ⟨j, hj⟩ := List.getElem?_of_mem h1
    exact (ruleOk_iff (hm.rule hj)).2.2.2.2.1
  obtain ⟨W0, hW0⟩ : ∃ W0, W0 = (w.alloc (.cells #[.int .i64 m.procs, .int .i64 m.states, .int .i64 m.loads, .slice ao1 m.links.length cap1, .slice ao3 R.length cap3, .slice ao2 m.starts.length cap2] 31)).alloc (.cells #[.int .i64 0, .int .i64 0, .int .i64 0, .slice none 0 0, .slice none 0 0, .slice none 0 0] 31) := ⟨_, rfl⟩
  have HW0 : Hid (W0 = (w.alloc (.cells #[.int .i64 m.procs, .int .i64 m.states, .int .i64 m.loads, .slice ao1 m.links.length cap1, .slice ao3 R.length cap3, .slice ao2 m.starts.length cap2] 31)).alloc (.cells #[.int .i64 0, .int .i64 0, .int .i64 0, .slice none 0 0, .slice none 0 0, .slice none 0 0] 31)) := hW0
  have hB0 : Below w.heap.size w W0 := by rw [hW0]; exact KeptF.below (F := fun _ => False) (((KeptF.refl _ w).alloc _).alloc _) (Nat.le_refl _) (fun _ e => e.elim)
  have hb0 : Blk W0 w.heap.size #[.int .i64 m.procs, .int .i64 m.states, .int .i64 m.loads, .slice ao1 m.links.length cap1, .slice ao3 R.length cap3, .slice ao2 m.starts.length cap2] 31 := by rw [hW0]; exact Blk.alloc (blk_newP rfl) _
  have hb1 : Blk W0 (w.heap.size + 1) #[.int .i64 0, .int .i64 0, .int .i64 0, .slice none 0 0, .slice none 0 0, .slice none 0 0] 31 := by rw [hW0]; exact blk_newP (by simp)
  have hz : W0.heap.size = w.heap.size + 2 := by rw [hW0]; simp
  have Hz : Hid (W0.heap.size = w.heap.size + 2) := hz
  clear hW0 hz
  have hc1 := clone_lk W0 Bm (.slice ao1 m.links.length cap1) m.links (RowsAt.keep hM.links (hB0.mono hBm)) (Nat.le_trans hBm hB0.size) (by omega)
  have m3 : W0.cell? ⟨w.heap.size, 3, none⟩ = some (.slice ao1 m.links.length cap1) := hb0.cell 3
  have hl0 := hb0.lt
  go_enter Try.func62, Try.ntmps62
  go_upto_region 1 with fail
  rw [← HW0.out]
  go_wp2_with fail
  refine hc1.mono ?_
  rintro e1 w1 ⟨v1, rfl, hL1, hbl1⟩
  clear hc1 m3
  rw [Hz.out] at hL1
  have hk1 : KeptF (fun _ => False) W0 w1 := kept_of_below' hbl1
  have hb01 := hb0.keep hk1 (fun e => e)
  have hb11 := hb1.keep hk1 (fun e => e)
  have hB1 : Below w.heap.size w w1 := hB0.trans (hbl1.mono hB0.size)
  obtain ⟨a1, n1, c1, hv1⟩ : ∃ a n c, v1 = .slice a n c := by obtain ⟨a, c, h1, _⟩ := hL1.form'; exact ⟨a, _, c, h1⟩
  subst hv1
  have g3 : w1.cell? ⟨w.heap.size, 3, none⟩ = some (.slice ao1 m.links.length cap1) := hb01.cell 3
  have f3 : w1.frozen? ⟨w.heap.size, 3, none⟩ = false := hb01.frozen 3
  have g4 : w1.cell? ⟨w.heap.size, 4, none⟩ = some (.slice ao3 R.length cap3) := hb01.cell 4
  have hl1 := hb01.lt
  have hkA : KeptF (fun r => r = w.heap.size) w1 (w1.setCell ⟨w.heap.size, 3, none⟩ (.slice a1 n1 c1)) := (KeptF.refl (fun r => r = w.heap.size) w1).setCell (p := ⟨w.heap.size, 3, none⟩) (.inl rfl) _
  have hbA := hb01.set 3 (.slice a1 n1 c1)
  have hb1A := hb11.keep hkA (by omega)
  have hLA := hL1.keep hkA (fun g hg e => by have := (hL1.lt hg).1; omega)
  have hBA : Below w.heap.size w (w1.setCell ⟨w.heap.size, 3, none⟩ (.slice a1 n1 c1)) := hB1.trans (KeptF.below hkA hB1.size (fun r e => by omega))
  go_upto_region 2 with fail
  clear g3 f3 g4 hb0 hb1 hb01 hb11 hL1 hB1 hbl1 hk1 hkA HW0 Hz hB0
  generalize w1.setCell ⟨w.heap.size, 3, none⟩ (.slice a1 n1 c1) = WA at *
  have hc2 := clone_rl WA Bm (.slice ao3 R.length cap3) RS (RowsAt.keep hrows (hBA.mono hBm)) (Nat.le_trans hBm hBA.size) (by omega)
  have g4 : WA.cell? ⟨w.heap.size, 4, none⟩ = some (.slice ao3 R.length cap3) := hbA.cell 4
  have hlA := hbA.lt
  have hlA1 := hb1A.lt
  go_wp2_with fail
  refine hc2.mono ?_
  rintro e2 w2 ⟨v2, rfl, hR2, hbl2⟩
  clear hc2 g4
  have hk2 : KeptF (fun _ => False) WA w2 := kept_of_below' hbl2
  have hbA2 := hbA.keep hk2 (fun e => e)
  have hb1A2 := hb1A.keep hk2 (fun e => e)
  have hLA2 := hLA.keep hk2 (fun _ _ e => e)
  have hBA2 : Below w.heap.size w w2 := hBA.trans (hbl2.mono hBA.size)
  have hlap : ∀ g, (Value.slice a1 n1 c1).ownBlock = some g → g < WA.heap.size := fun g hg => (hLA.lt hg).2
  obtain ⟨a2, c2, hv2, hc2⟩ := hR2.form'
  rw [hRlen] at hv2 hc2
  subst hv2
  have g4 : w2.cell? ⟨w.heap.size, 4, none⟩ = some (.slice ao3 R.length cap3) := hbA2.cell 4
  have f4 : w2.frozen? ⟨w.heap.size, 4, none⟩ = false := hbA2.frozen 4
  have hl2 := hbA2.lt
  have hkB : KeptF (fun r => r = w.heap.size) w2 (w2.setCell ⟨w.heap.size, 4, none⟩ (.slice a2 R.length c2)) := (KeptF.refl (fun r => r = w.heap.size) w2).setCell (p := ⟨w.heap.size, 4, none⟩) (.inl rfl) _
  have hbB := hbA2.set 4 (.slice a2 R.length c2)
  have hb1B := hb1A2.keep hkB (by omega)
  have hLB := hLA2.keep hkB (fun g hg e => by have := (hLA.lt hg).1; omega)
  have hRB := hR2.keep hkB (fun g hg e => by have := (hR2.lt hg).1; omega)
  have hBB : Below w.heap.size w (w2.setCell ⟨w.heap.size, 4, none⟩ (.slice a2 R.length c2)) := hBA2.trans (KeptF.below hkB hBA2.size (fun r e => by omega))
  have hrap : ∀ g, (Value.slice a2 R.length c2).ownBlock = some g → WA.heap.size ≤ g := fun g hg => (hR2.lt hg).1
  go_upto_region 3 with fail
  clear g4 f4 hbA hb1A hLA hBA hR2 hbl2 hk2 hbA2 hb1A2 hLA2 hBA2 hkB
  generalize w2.setCell ⟨w.heap.size, 4, none⟩ (.slice a2 R.length c2) = WB at *
  have g4 : WB.cell? ⟨w.heap.size, 4, none⟩ = some (.slice a2 R.length c2) := hbB.cell 4
  have hlB := hbB.lt
  go_wp2
  clear g4
  have hrlt : ∀ g, (Value.slice a2 R.length c2).ownBlock = some g → g < WB.heap.size := fun g hg => (hRB.lt hg).2
  have hWBl : w.heap.size + 1 < WB.heap.size := hb1B.lt
  have hRB' := hRB.mono (show w.heap.size ≤ WA.heap.size by omega)
  go_loopw [15] (fun s15 wr => ∃ (k : Nat) (RK : List RuleS), s15 = .int .i64 k ∧ k ≤ R.length ∧ RK.map RuleS.r = m.rules ∧ (∀ j, k ≤ j → RK[j]? = RS[j]?) ∧ (∀ (j : Nat) (x : RuleS), j < k → RK[j]? = some x → Own etE wr w.heap.size x.ev x.r.es ∧ (∀ g, x.ev.ownBlock = some g → WB.heap.size ≤ g)) ∧ Own rlE wr WA.heap.size (.slice a2 R.length c2) RK ∧ Own lkE wr (w.heap.size + 2) (.slice a1 n1 c1) m.links ∧ Blk wr w.heap.size (((#[.int .i64 m.procs, .int .i64 m.states, .int .i64 m.loads, .slice ao1 m.links.length cap1, .slice ao3 R.length cap3, .slice ao2 m.starts.length cap2]).setIfInBounds 3 (.slice a1 n1 c1)).setIfInBounds 4 (.slice a2 R.length c2)) 31 ∧ Blk wr (w.heap.size + 1) #[.int .i64 0, .int .i64 0, .int .i64 0, .slice none 0 0, .slice none 0 0, .slice none 0 0] 31 ∧ Below w.heap.size w wr ∧ WB.heap.size ≤ wr.heap.size) (fun s15 _ => R.length - (intOf s15).toNat)
  case atStart => exact ⟨0, RS, rfl, Nat.zero_le _, hRr, fun _ _ => rfl, fun j x hj => by omega, hRB, hLB, hbB, hb1B, hBB, Nat.le_refl _⟩
  case round =>
    clear hRB hLB hbB hb1B hBB hRB'
    obtain ⟨k, RK, rfl, hk, hKr, hKe, hKo, hO, hL, hbm, hbz, hbl, hsz⟩ := hrel
    have hKl : RK.length = R.length := by
      have := congrArg List.length hKr
      rw [List.length_map] at this
      rw [this, ← hRr, List.length_map, hRlen]
    by_cases hlt : k < R.length
    · obtain ⟨x, hx⟩ := get_of_lt (d := RK) (k := k) (by omega)
      have hxS : RS[k]? = some x := by rw [← hKe k (Nat.le_refl _)]; exact hx
      have hxm := List.mem_of_getElem? hxS
      obtain ⟨g, cap', hg, _⟩ := Own.at_ hO hx
      simp only [Value.slice.injEq] at hg
      obtain ⟨rfl, -, -⟩ := hg
      have hgl := hO.lt (g := g) rfl
      have x4 : wr.cell? ⟨g, k * 5 + 4, none⟩ = some (.slice x.ao x.len x.cap) := hO.cell hx (k := 4) (u := .slice x.ao x.len x.cap) rfl
      have xf : wr.frozen? ⟨g, k * 5 + 4, none⟩ = false := by obtain ⟨c, hc⟩ := hO.blkC; exact hc.frozen _
      have g4 : wr.cell? ⟨w.heap.size, 4, none⟩ = some (.slice (some ⟨g, 0, none⟩) R.length c2) := hbm.cell 4
      have g4d : wr.drew.cell? ⟨w.heap.size, 4, none⟩ = some (.slice (some ⟨g, 0, none⟩) R.length c2) := g4
      have hlm : w.heap.size < wr.heap.size := hbm.lt
      have hlg : g < wr.heap.size := hgl.2
      have hgm : g ≠ w.heap.size := by omega
      have hkl : (k : Int) < R.length := by omega
      have hbd : Below w.heap.size w wr.drew := hbl.trans ⟨rfl, rfl, rfl, Nat.le_refl _, fun _ _ => rfl⟩
      have hcl := clone_et wr.drew Bm x.ev x.r.es (RowsAt.keep (hems x hxm) (hbd.mono hBm)) (Nat.le_trans hBm hbd.size) (by have := heml x hxm; omega)
      have hcl : Calls Try.prog 92 #[.slice x.ao x.len x.cap] wr.drew fun e w' => ∃ v' : Value, e = .returned v' ∧ Own etE w' wr.drew.heap.size v' x.r.es ∧ Below wr.drew.heap.size wr.drew w' := hcl
      have Hx : Hid (RK[k]? = some x) := hx
      clear hx hxS
      go_wp2
      refine wp_region_held_drew (S := (fun W => W.cell? ⟨w.heap.size, 4, none⟩ = some (.slice (some ⟨g, 0, none⟩) R.length c2))) (by kernel_rfl) ?_ (fun hHeld => ?_)
      · (try dsimp only)
        assumption
      refine takeL 0 (v := ?_) rfl (by kernel_rfl) (by kernel_rfl) (by kernel_rfl) (fun _ _ _ h => h) (by rfl) ?_ (by assumption) ?_
      rotate_left
      · intro w hSw
        (try dsimp only at hSw)
        go_simp
        all_goals with_reducible rfl
      try simp only [Act.put, List.setIfInBounds_toArray, List.set_cons_zero, List.set_cons_succ]
      refine takeL 1 (v := ?_) rfl (by kernel_rfl) (by kernel_rfl) (by kernel_rfl) (fun _ _ _ h => h) (by rfl) ?_ (by assumption) ?_
      rotate_left
      · intro w hSw
        (try dsimp only at hSw)
        go_simp
        all_goals with_reducible rfl
      try simp only [Act.put, List.setIfInBounds_toArray, List.set_cons_zero, List.set_cons_succ]
      refine takeL 2 (v := ?_) rfl (by kernel_rfl) (by kernel_rfl) (by kernel_rfl) (fun _ _ _ h => h) (by rfl) ?_ (by assumption) ?_
      rotate_left
      · intro w hSw
        (try dsimp only at hSw)
        go_simp
        all_goals with_reducible rfl
      try simp only [Act.put, List.setIfInBounds_toArray, List.set_cons_zero, List.set_cons_succ]
      refine takeL 3 (v := ?_) rfl (by kernel_rfl) (by kernel_rfl) (by kernel_rfl) (fun _ _ _ h => h) (by rfl) ?_ (by assumption) ?_
      rotate_left
      · intro w hSw
        (try dsimp only at hSw)
        go_simp
        all_goals with_reducible rfl
      try simp only [Act.put, List.setIfInBounds_toArray, List.set_cons_zero, List.set_cons_succ]
      refine takeL 4 (v := ?_) rfl (by kernel_rfl) (by kernel_rfl) (by kernel_rfl) (fun _ _ _ h => h) (by rfl) ?_ (by assumption) ?_
      rotate_left
      · intro w hSw
        (try dsimp only at hSw)
        go_simp
        all_goals with_reducible rfl
      try simp only [Act.put, List.setIfInBounds_toArray, List.set_cons_zero, List.set_cons_succ]
      refine takeL 5 (v := ?_) rfl (by kernel_rfl) (by kernel_rfl) (by kernel_rfl) (fun _ _ _ h => h) (by rfl) ?_ (by assumption) ?_
      rotate_left
      · intro w hSw
        (try dsimp only at hSw)
        go_simp
        all_goals with_reducible rfl
      try simp only [Act.put, List.setIfInBounds_toArray, List.set_cons_zero, List.set_cons_succ]
      refine takeL 6 (v := ?_) rfl (by kernel_rfl) (by kernel_rfl) (by kernel_rfl) (fun _ _ _ h => h) (by rfl) ?_ (by assumption) ?_
      rotate_left
      · intro w hSw
        (try dsimp only at hSw)
        go_simp
        all_goals with_reducible rfl
      try simp only [Act.put, List.setIfInBounds_toArray, List.set_cons_zero, List.set_cons_succ]
      refine takeL 7 (v := ?_) rfl (by kernel_rfl) (by kernel_rfl) (by kernel_rfl) (fun _ _ _ h => h) (by rfl) ?_ (by assumption) ?_
      rotate_left
      · intro w hSw
        (try dsimp only at hSw)
        go_simp
        all_goals with_reducible rfl
      try simp only [Act.put, List.setIfInBounds_toArray, List.set_cons_zero, List.set_cons_succ]
      refine wpAnyH_ready (rs := [8]) (by kernel_rfl) (by simp) ?_
      refine consL rfl (fun K hK => ?_) AllReadyH.nil
      go_simp
      refine hK.out _ _ ?_ (fun hHeld => ?_)
      · (try dsimp only)
        assumption
      clear hK K
      try simp only [Act.put, List.setIfInBounds_toArray, List.set_cons_zero, List.set_cons_succ]
      refine wpAnyH_ready (rs := [9]) (by kernel_rfl) (by simp) ?_
      refine consL rfl (fun K hK => ?_) AllReadyH.nil
      go_simp
      refine hcl.mono ?_
      rintro e4 w4 ⟨v4, rfl, hO4, hb4⟩
      clear hcl
      have hk4 : KeptF (fun _ => False) wr.drew w4 := kept_of_below' hb4
      have d4 : w4.cell? ⟨w.heap.size, 4, none⟩ = some (.slice (some ⟨g, 0, none⟩) R.length c2) := (hk4.cell (p := ⟨w.heap.size, 4, none⟩) hlm (fun e => e)).trans g4
      have de : w4.cell? ⟨g, k * 5 + 4, none⟩ = some (.slice x.ao x.len x.cap) := (hk4.cell (p := ⟨g, k * 5 + 4, none⟩) hlg (fun e => e)).trans x4
      have df : w4.frozen? ⟨g, k * 5 + 4, none⟩ = false := (hk4.frozen (p := ⟨g, k * 5 + 4, none⟩) hlg (fun e => e)).trans xf
      obtain ⟨ae, ne, ce, hve⟩ : ∃ a n c, v4 = .slice a n c := by obtain ⟨a, c, h1, _⟩ := hO4.form'; exact ⟨a, _, c, h1⟩
      subst hve
      have dS : (w4.setCell ⟨g, k * 5 + 4, none⟩ (.slice ae ne ce)).cell? ⟨w.heap.size, 4, none⟩ = some (.slice (some ⟨g, 0, none⟩) R.length c2) := (((KeptF.refl (fun r => r = g) w4).setCell (p := ⟨g, k * 5 + 4, none⟩) (.inl rfl) _).cell (p := ⟨w.heap.size, 4, none⟩) (block_lt_of_cell d4) (fun e => hgm e.symm)).trans d4
      go_wp2_with fail
      refine hK.out _ _ ?_ (fun hHeld => ?_)
      · (try dsimp only)
        assumption
      clear hK K
      try simp only [Act.put, List.setIfInBounds_toArray, List.set_cons_zero, List.set_cons_succ]
      refine takeL 10 (v := ?_) rfl (by kernel_rfl) (by kernel_rfl) (by kernel_rfl) (fun _ _ _ h => h) (by rfl) ?_ (by assumption) ?_
      rotate_left
      · intro w hSw
        (try dsimp only at hSw)
        go_simp
        all_goals with_reducible rfl
      try simp only [Act.put, List.setIfInBounds_toArray, List.set_cons_zero, List.set_cons_succ]
      refine takeL 11 (v := ?_) rfl (by kernel_rfl) (by kernel_rfl) (by kernel_rfl) (fun _ _ _ h => h) (by rfl) ?_ (by assumption) ?_
      rotate_left
      · intro w hSw
        (try dsimp only at hSw)
        go_simp
        all_goals with_reducible rfl
      try simp only [Act.put, List.setIfInBounds_toArray, List.set_cons_zero, List.set_cons_succ]
      refine wpAnyH_ready (rs := [12]) (by kernel_rfl) (by simp) ?_
      refine consL rfl (fun K hK => ?_) AllReadyH.nil
      go_simp
      refine hK.out _ _ ?_ (fun hHeld => ?_)
      · (try dsimp only)
        assumption
      clear hK K
      try simp only [Act.put, List.setIfInBounds_toArray, List.set_cons_zero, List.set_cons_succ]
      refine wpAnyH_done (by kernel_rfl) ?_ _
      have hk5 : KeptF (fun r => r = g) w4 (w4.setCell ⟨g, k * 5 + 4, none⟩ (.slice ae ne ce)) := (KeptF.refl (fun r => r = g) w4).setCell (p := ⟨g, k * 5 + 4, none⟩) (.inl rfl) _
      have hkw4 : KeptF (fun _ => False) wr w4 := (KeptF.drew (KeptF.refl (fun _ => False) wr)).trans hk4
      have hO5 := (hO.keep hkw4 (fun _ _ e => e)).setAt Hx.out (k := 4) (u := .slice ae ne ce) (y := ⟨x.r, ae, ne, ce⟩) (by decide) rfl
      have hO5 : Own rlE (w4.setCell ⟨g, k * 5 + 4, none⟩ (.slice ae ne ce)) WA.heap.size (.slice (some ⟨g, 0, none⟩) R.length c2) (RK.set k ⟨x.r, ae, ne, ce⟩) := hO5
      have hge : ∀ r, (Value.slice ae ne ce).ownBlock = some r → wr.heap.size ≤ r := fun r hr => (hO4.lt hr).1
      have hE5 : Own etE (w4.setCell ⟨g, k * 5 + 4, none⟩ (.slice ae ne ce)) w.heap.size (.slice ae ne ce) x.r.es := (hO4.keep hk5 (fun r hr e => by have := hge r hr; omega)).mono (show w.heap.size ≤ wr.heap.size by omega)
      have hL5 := (hL.keep hkw4 (fun _ _ e => e)).keep hk5 (fun r hr e => by have := hlap r hr; omega)
      have hbm5 := (hbm.keep hkw4 (fun e => e)).keep hk5 (fun e => hgm e.symm)
      have hbz5 := (hbz.keep hkw4 (fun e => e)).keep hk5 (by omega)
      have hbl5 : Below w.heap.size w (w4.setCell ⟨g, k * 5 + 4, none⟩ (.slice ae ne ce)) := (hbl.trans (KeptF.below hkw4 hbl.size (fun _ e => e.elim))).trans (KeptF.below hk5 (Nat.le_trans hbl.size hkw4.size) (fun r e => by omega))
      have hsz5 : WB.heap.size ≤ (w4.setCell ⟨g, k * 5 + 4, none⟩ (.slice ae ne ce)).heap.size := Nat.le_trans hsz (Nat.le_trans hkw4.size hk5.size)
      have hKo5 : ∀ (j : Nat) (y : RuleS), j < k + 1 → (RK.set k ⟨x.r, ae, ne, ce⟩)[j]? = some y → Own etE (w4.setCell ⟨g, k * 5 + 4, none⟩ (.slice ae ne ce)) w.heap.size y.ev y.r.es ∧ (∀ r, y.ev.ownBlock = some r → WB.heap.size ≤ r) := by
        intro j y hj hy
        rcases set_get hy with ⟨_, e2⟩ | ⟨e1, e2⟩
        · subst e2
          exact ⟨hE5, fun r hr => Nat.le_trans hsz (hge r hr)⟩
        · obtain ⟨h1, h2⟩ := hKo j y (by omega) e2
          exact ⟨(h1.keep hkw4 (fun _ _ e => e)).keep hk5 (fun r hr e => by have := h2 r hr; have := hrlt g rfl; omega), h2⟩
      have hKr5 : (RK.set k ⟨x.r, ae, ne, ce⟩).map RuleS.r = m.rules := by
        rw [List.map_set, ← hKr]
        exact set_same (by rw [List.getElem?_map, Hx.out]; rfl)
      have hKe5 : ∀ j, k + 1 ≤ j → (RK.set k ⟨x.r, ae, ne, ce⟩)[j]? = RS[j]? := fun j hj => by
        rw [List.getElem?_set_ne (by omega)]; exact hKe j (by omega)
      clear hO hL hbm hbz hbl hKo hKr hKe x4 xf g4 g4d d4 de df dS hO4 hb4 hk4
      go_wp2
      go_roundw
      case rel => exact ⟨k + 1, _, by go_num, hlt, hKr5, hKe5, hKo5, hO5, hL5, hbm5, hbz5, hbl5, hsz5⟩
      case measure => simp [intOf]; omega
    · have hke : k = R.length := by omega
      subst hke
      have c0 : wr.cell? ⟨w.heap.size, 0, none⟩ = some (.int .i64 m.procs) := hbm.cell 0
      have c1' : wr.cell? ⟨w.heap.size, 1, none⟩ = some (.int .i64 m.states) := hbm.cell 1
      have c2' : wr.cell? ⟨w.heap.size, 2, none⟩ = some (.int .i64 m.loads) := hbm.cell 2
      have c3 : wr.cell? ⟨w.heap.size, 3, none⟩ = some (.slice a1 n1 c1) := hbm.cell 3
      have c4 : wr.cell? ⟨w.heap.size, 4, none⟩ = some (.slice a2 R.length c2) := hbm.cell 4
      have c5 : wr.cell? ⟨w.heap.size, 5, none⟩ = some (.slice ao2 m.starts.length cap2) := hbm.cell 5
      have f5 : wr.frozen? ⟨w.heap.size, 5, none⟩ = false := hbm.frozen 5
      have hlm := hbm.lt
      have hlz := hbz.lt
      have hk5 : KeptF (fun r => r = w.heap.size) wr (wr.setCell ⟨w.heap.size, 5, none⟩ (.slice none 0 0)) := (KeptF.refl (fun r => r = w.heap.size) wr).setCell (p := ⟨w.heap.size, 5, none⟩) (.inl rfl) _
      have hbm5 := hbm.set 5 (.slice none 0 0)
      have hbz5 := hbz.keep hk5 (by omega)
      have hO5 := hO.keep hk5 (fun r hr e => by have := hrap r hr; omega)
      have hL5 := hL.keep hk5 (fun r hr e => by have := (hL.lt hr).1; omega)
      have hE5 : ∀ x ∈ RK, Own etE (wr.setCell ⟨w.heap.size, 5, none⟩ (.slice none 0 0)) w.heap.size x.ev x.r.es ∧ ∀ r, x.ev.ownBlock = some r → WB.heap.size ≤ r := fun x hx => by
        obtain ⟨j, hj⟩ := List.getElem?_of_mem hx
        obtain ⟨h1, h2⟩ := hKo j x (by have := get_lt hj; omega) hj
        exact ⟨h1.keep hk5 (fun r hr e => by have := h2 r hr; omega), h2⟩
      have hbl5 : Below w.heap.size w (wr.setCell ⟨w.heap.size, 5, none⟩ (.slice none 0 0)) := hbl.trans (KeptF.below hk5 hbl.size (fun r e => by omega))
      go_upto_region 9 with fail
      clear c0 c1' c2' c3 c4 c5 f5 hbm hbz hO hL hKo hbl hk5
      generalize wr.setCell ⟨w.heap.size, 5, none⟩ (.slice none 0 0) = WC at *
      have c0 : WC.cell? ⟨w.heap.size, 0, none⟩ = some (.int .i64 m.procs) := hbm5.cell 0
      have c1' : WC.cell? ⟨w.heap.size, 1, none⟩ = some (.int .i64 m.states) := hbm5.cell 1
      have c2' : WC.cell? ⟨w.heap.size, 2, none⟩ = some (.int .i64 m.loads) := hbm5.cell 2
      have c3 : WC.cell? ⟨w.heap.size, 3, none⟩ = some (.slice a1 n1 c1) := hbm5.cell 3
      have c4 : WC.cell? ⟨w.heap.size, 4, none⟩ = some (.slice a2 R.length c2) := hbm5.cell 4
      have c5 : WC.cell? ⟨w.heap.size, 5, none⟩ = some (.slice none 0 0) := hbm5.cell 5
      have z0 : WC.cell? ⟨w.heap.size + 1, 0, none⟩ = some (.int .i64 0) := hbz5.cell 0
      have z1 : WC.cell? ⟨w.heap.size + 1, 1, none⟩ = some (.int .i64 0) := hbz5.cell 1
      have z2 : WC.cell? ⟨w.heap.size + 1, 2, none⟩ = some (.int .i64 0) := hbz5.cell 2
      have z3 : WC.cell? ⟨w.heap.size + 1, 3, none⟩ = some (.slice none 0 0) := hbz5.cell 3
      have z4 : WC.cell? ⟨w.heap.size + 1, 4, none⟩ = some (.slice none 0 0) := hbz5.cell 4
      have z5 : WC.cell? ⟨w.heap.size + 1, 5, none⟩ = some (.slice none 0 0) := hbz5.cell 5
      have y0 : WC.frozen? ⟨w.heap.size + 1, 0, none⟩ = false := hbz5.frozen 0
      have y1 : WC.frozen? ⟨w.heap.size + 1, 1, none⟩ = false := hbz5.frozen 1
      have y2 : WC.frozen? ⟨w.heap.size + 1, 2, none⟩ = false := hbz5.frozen 2
      have y3 : WC.frozen? ⟨w.heap.size + 1, 3, none⟩ = false := hbz5.frozen 3
      have y4 : WC.frozen? ⟨w.heap.size + 1, 4, none⟩ = false := hbz5.frozen 4
      have y5 : WC.frozen? ⟨w.heap.size + 1, 5, none⟩ = false := hbz5.frozen 5
      have hlm5 := hbm5.lt
      have hlz5 := hbz5.lt
      have hk6 : KeptF (fun r => r = w.heap.size + 1) WC ((((((WC.setCell ⟨w.heap.size + 1, 0, none⟩ (.int .i64 m.procs)).setCell ⟨w.heap.size + 1, 1, none⟩ (.int .i64 m.states)).setCell ⟨w.heap.size + 1, 2, none⟩ (.int .i64 m.loads)).setCell ⟨w.heap.size + 1, 3, none⟩ (.slice a1 n1 c1)).setCell ⟨w.heap.size + 1, 4, none⟩ (.slice a2 R.length c2)).setCell ⟨w.heap.size + 1, 5, none⟩ (.slice none 0 0)) := ((((((KeptF.refl (fun r => r = w.heap.size + 1) WC).setCell (p := ⟨w.heap.size + 1, 0, none⟩) (.inl rfl) _).setCell (p := ⟨w.heap.size + 1, 1, none⟩) (.inl rfl) _).setCell (p := ⟨w.heap.size + 1, 2, none⟩) (.inl rfl) _).setCell (p := ⟨w.heap.size + 1, 3, none⟩) (.inl rfl) _).setCell (p := ⟨w.heap.size + 1, 4, none⟩) (.inl rfl) _).setCell (p := ⟨w.heap.size + 1, 5, none⟩) (.inl rfl) _
      have hbz6 := (((((hbz5.set 0 (.int .i64 m.procs)).set 1 (.int .i64 m.states)).set 2 (.int .i64 m.loads)).set 3 (.slice a1 n1 c1)).set 4 (.slice a2 R.length c2)).set 5 (.slice none 0 0)
      have q0 : ((((((WC.setCell ⟨w.heap.size + 1, 0, none⟩ (.int .i64 m.procs)).setCell ⟨w.heap.size + 1, 1, none⟩ (.int .i64 m.states)).setCell ⟨w.heap.size + 1, 2, none⟩ (.int .i64 m.loads)).setCell ⟨w.heap.size + 1, 3, none⟩ (.slice a1 n1 c1)).setCell ⟨w.heap.size + 1, 4, none⟩ (.slice a2 R.length c2)).setCell ⟨w.heap.size + 1, 5, none⟩ (.slice none 0 0)).cell? ⟨w.heap.size + 1, 0, none⟩ = some (.int .i64 m.procs) := hbz6.cell 0
      have q1 : ((((((WC.setCell ⟨w.heap.size + 1, 0, none⟩ (.int .i64 m.procs)).setCell ⟨w.heap.size + 1, 1, none⟩ (.int .i64 m.states)).setCell ⟨w.heap.size + 1, 2, none⟩ (.int .i64 m.loads)).setCell ⟨w.heap.size + 1, 3, none⟩ (.slice a1 n1 c1)).setCell ⟨w.heap.size + 1, 4, none⟩ (.slice a2 R.length c2)).setCell ⟨w.heap.size + 1, 5, none⟩ (.slice none 0 0)).cell? ⟨w.heap.size + 1, 1, none⟩ = some (.int .i64 m.states) := hbz6.cell 1
      have q2 : ((((((WC.setCell ⟨w.heap.size + 1, 0, none⟩ (.int .i64 m.procs)).setCell ⟨w.heap.size + 1, 1, none⟩ (.int .i64 m.states)).setCell ⟨w.heap.size + 1, 2, none⟩ (.int .i64 m.loads)).setCell ⟨w.heap.size + 1, 3, none⟩ (.slice a1 n1 c1)).setCell ⟨w.heap.size + 1, 4, none⟩ (.slice a2 R.length c2)).setCell ⟨w.heap.size + 1, 5, none⟩ (.slice none 0 0)).cell? ⟨w.heap.size + 1, 2, none⟩ = some (.int .i64 m.loads) := hbz6.cell 2
      have q3 : ((((((WC.setCell ⟨w.heap.size + 1, 0, none⟩ (.int .i64 m.procs)).setCell ⟨w.heap.size + 1, 1, none⟩ (.int .i64 m.states)).setCell ⟨w.heap.size + 1, 2, none⟩ (.int .i64 m.loads)).setCell ⟨w.heap.size + 1, 3, none⟩ (.slice a1 n1 c1)).setCell ⟨w.heap.size + 1, 4, none⟩ (.slice a2 R.length c2)).setCell ⟨w.heap.size + 1, 5, none⟩ (.slice none 0 0)).cell? ⟨w.heap.size + 1, 3, none⟩ = some (.slice a1 n1 c1) := hbz6.cell 3
      have q4 : ((((((WC.setCell ⟨w.heap.size + 1, 0, none⟩ (.int .i64 m.procs)).setCell ⟨w.heap.size + 1, 1, none⟩ (.int .i64 m.states)).setCell ⟨w.heap.size + 1, 2, none⟩ (.int .i64 m.loads)).setCell ⟨w.heap.size + 1, 3, none⟩ (.slice a1 n1 c1)).setCell ⟨w.heap.size + 1, 4, none⟩ (.slice a2 R.length c2)).setCell ⟨w.heap.size + 1, 5, none⟩ (.slice none 0 0)).cell? ⟨w.heap.size + 1, 4, none⟩ = some (.slice a2 R.length c2) := hbz6.cell 4
      have q5 : ((((((WC.setCell ⟨w.heap.size + 1, 0, none⟩ (.int .i64 m.procs)).setCell ⟨w.heap.size + 1, 1, none⟩ (.int .i64 m.states)).setCell ⟨w.heap.size + 1, 2, none⟩ (.int .i64 m.loads)).setCell ⟨w.heap.size + 1, 3, none⟩ (.slice a1 n1 c1)).setCell ⟨w.heap.size + 1, 4, none⟩ (.slice a2 R.length c2)).setCell ⟨w.heap.size + 1, 5, none⟩ (.slice none 0 0)).cell? ⟨w.heap.size + 1, 5, none⟩ = some (.slice none 0 0) := hbz6.cell 5
      have hlow : ∀ r, (Value.slice a1 n1 c1).ownBlock = some r → w.heap.size + 2 ≤ r := fun r hr => (hL5.lt hr).1
      have hOf : ModOwn ((((((WC.setCell ⟨w.heap.size + 1, 0, none⟩ (.int .i64 m.procs)).setCell ⟨w.heap.size + 1, 1, none⟩ (.int .i64 m.states)).setCell ⟨w.heap.size + 1, 2, none⟩ (.int .i64 m.loads)).setCell ⟨w.heap.size + 1, 3, none⟩ (.slice a1 n1 c1)).setCell ⟨w.heap.size + 1, 4, none⟩ (.slice a2 R.length c2)).setCell ⟨w.heap.size + 1, 5, none⟩ (.slice none 0 0)) w.heap.size (.slice a1 n1 c1) (.slice a2 R.length c2) m RK := by
        refine ⟨(hL5.keep hk6 (fun r hr e => by have := hlow r hr; omega)).mono (by omega), (hO5.keep hk6 (fun r hr e => by have := hrap r hr; omega)).mono (by omega), hKr, fun x hx => ?_⟩
        obtain ⟨h1, h2⟩ := hE5 x hx
        exact h1.keep hk6 (fun r hr e => by have := h2 r hr; omega)
      have hbf : Below w.heap.size w ((((((WC.setCell ⟨w.heap.size + 1, 0, none⟩ (.int .i64 m.procs)).setCell ⟨w.heap.size + 1, 1, none⟩ (.int .i64 m.states)).setCell ⟨w.heap.size + 1, 2, none⟩ (.int .i64 m.loads)).setCell ⟨w.heap.size + 1, 3, none⟩ (.slice a1 n1 c1)).setCell ⟨w.heap.size + 1, 4, none⟩ (.slice a2 R.length c2)).setCell ⟨w.heap.size + 1, 5, none⟩ (.slice none 0 0)) := hbl5.trans (KeptF.below hk6 hbl5.size (fun r e => by omega))
      have HOf : Hid (ModOwn ((((((WC.setCell ⟨w.heap.size + 1, 0, none⟩ (.int .i64 m.procs)).setCell ⟨w.heap.size + 1, 1, none⟩ (.int .i64 m.states)).setCell ⟨w.heap.size + 1, 2, none⟩ (.int .i64 m.loads)).setCell ⟨w.heap.size + 1, 3, none⟩ (.slice a1 n1 c1)).setCell ⟨w.heap.size + 1, 4, none⟩ (.slice a2 R.length c2)).setCell ⟨w.heap.size + 1, 5, none⟩ (.slice none 0 0)) w.heap.size (.slice a1 n1 c1) (.slice a2 R.length c2) m RK) := hOf
      clear hOf hO5 hL5 hE5
      go_wp2
      refine bodyPost_ret (v := .agg #[.int .i64 m.procs, .int .i64 m.states, .int .i64 m.loads, .slice a1 n1 c1, .slice a2 R.length c2, .slice none 0 0]) (by simp [results, Try.results62, go_sem, q0, q1, q2, q3, q4, q5]) rfl ⟨.slice a1 n1 c1, .slice a2 R.length c2, RK, rfl, HOf.out, hbf⟩

end Go.Proofs.Ytaieackeflmhgaa

namespace Go.Proofs.Ytaieackeflmhgaa
open Go.RowKit Go.Sort Go.Maps

/-- which event is next, told by the processes -/
theorem next_of {m : Mdl} {c : Cs} {ps : List Pr} (hI : Inv m c) (hS : Sim (np m) c.wait c.states c.seqs c.done ps) {p : Pr} (hU : Upto ps (np m) p) :
    (∀ t, p.top = some t → (∀ e ∈ c.wait, ¬ e.it.lt t)) ∧ (p.top = none → c.wait = []) := by
  have key : ∀ e ∈ c.wait, ∃ t, p.top = some t ∧ ¬ e.it.lt t := by
    intro e he
    obtain ⟨h0, h1, _⟩ := hI.ev e he
    obtain ⟨q, hq⟩ := get_of_lt (d := ps) (k := e.p.toNat) (by rw [hS.len]; unfold np; omega)
    exact hU e.p.toNat q (by unfold np; omega) hq e.it ((hS.items _ q hq).mem_iff.2 (mem_atP.2 ⟨e, he, by omega, rfl⟩))
  refine ⟨fun t ht e he => ?_, fun h0 => ?_⟩
  · obtain ⟨u, hu, hl⟩ := key e he
    rw [ht] at hu; cases hu; exact hl
  · cases hw : c.wait with
    | nil => rfl
    | cons e l =>
      obtain ⟨t, ht, _⟩ := key e (by rw [hw]; simp)
      rw [h0] at ht; cases ht

theorem find_event {m : Mdl} {en : Int} {c : Cs} {ps : List Pr} (hI : Inv m c) (hS : Sim (np m) c.wait c.states c.seqs c.done ps) {i : Nat} {p : Pr} (hp : ps[i]? = some p) (hU : Upto ps (np m) p) {t : It} (ht : p.top = some t) (hti : t ∈ p.its) (hen : t.t < en) :
    ∃ (j : Nat) (e : Ev), c.wait[j]? = some e ∧ e.p = (i : Int) ∧ e.it = t ∧ nx en c.wait = some j := by
  obtain ⟨e, he, hep, hei⟩ := mem_atP.1 ((hS.items i p hp).mem_iff.1 hti)
  obtain ⟨j, hj⟩ := List.getElem?_of_mem he
  refine ⟨j, e, hj, hep, hei, nx_some hI.keys ⟨e, hj, by rw [hei]; exact hen, fun y hy _ => ?_⟩⟩
  rw [hei]
  exact (next_of hI hS hU).1 t ht y hy

set_option maxRecDepth 100000 in
set_option maxHeartbeats 8000000 in
theorem events_any (w : World) (Bm : Nat) (lv rv sv : Value) (m : Mdl) (R : List RuleV) (en : Int) (hM : ModelAt w Bm lv rv sv m R) (hBm : Bm ≤ w.heap.size) (hm : Right m) (hen : en ≤ 200) :
    Calls Try.prog 43 #[.agg #[.int .i64 m.procs, .int .i64 m.states, .int .i64 m.loads, lv, rv, sv], .int .i64 en] w fun e w' => ∃ n pb : Nat, e = .returned (.tuple #[.slice (some ⟨pb, 0, none⟩) (np m) (np m), .int .i64 (n : Int)]) ∧ Below w.heap.size w w' ∧ ((n ≤ 300 ∧ Few m en ∧ nx en (atK m en n).wait = none ∧ ∃ ps, Procs w' (w.heap.size + 2) pb (np m) ps ∧ Sim (np m) (atK m en n).wait (atK m en n).states (atK m en n).seqs (atK m en n).done ps) ∨ (n = 301 ∧ ¬ Few m en)) := by
  have hp1 := hm.lim.p1
  have hp2 := hm.lim.p2
  have hnp1 : 1 ≤ np m := by unfold np; omega
  have hnp6 : np m ≤ 6 := by unfold np; omega
  obtain ⟨W0, hW0⟩ : ∃ W0, W0 = w.alloc (.cells #[.int .i64 m.procs, .int .i64 m.states, .int .i64 m.loads, lv, rv, sv] 31) := ⟨_, rfl⟩
  have HW0 : Hid (W0 = w.alloc (.cells #[.int .i64 m.procs, .int .i64 m.states, .int .i64 m.loads, lv, rv, sv] 31)) := hW0
  have hB0 : Below w.heap.size w W0 := by rw [hW0]; exact (Below.refl _ _).alloc (Nat.le_refl _) _
  have hmb : Blk W0 w.heap.size #[.int .i64 m.procs, .int .i64 m.states, .int .i64 m.loads, lv, rv, sv] 31 := by rw [hW0]; exact heap_alloc_new w _
  have hz : W0.heap.size = w.heap.size + 1 := by rw [hW0]; simp
  have Hz : Hid (W0.heap.size = w.heap.size + 1) := hz
  have hnew := newProcs_any W0 Bm lv rv sv m R en (hM.keep (hB0.mono hBm)) (Nat.le_trans hBm hB0.size) hm
  have c0 : W0.cell? ⟨w.heap.size, 0, none⟩ = some (.int .i64 m.procs) := hmb.cell 0
  have c1 : W0.cell? ⟨w.heap.size, 1, none⟩ = some (.int .i64 m.states) := hmb.cell 1
  have c2 : W0.cell? ⟨w.heap.size, 2, none⟩ = some (.int .i64 m.loads) := hmb.cell 2
  have c3 : W0.cell? ⟨w.heap.size, 3, none⟩ = some lv := hmb.cell 3
  have c4 : W0.cell? ⟨w.heap.size, 4, none⟩ = some rv := hmb.cell 4
  have c5 : W0.cell? ⟨w.heap.size, 5, none⟩ = some sv := hmb.cell 5
  clear hW0 hz
  go_enter Try.func43, Try.ntmps43
  go_upto_region 1 with fail
  rw [← HW0.out]
  go_wp2_with fail
  refine hnew.mono ?_
  rintro e1 w1 ⟨pb, ps, rfl, hP, hS, hpu, hb1, -⟩
  rw [Hz.out] at hP
  clear hnew c0 c1 c2 c3 c4 c5
  have hbl1 : Below (w.heap.size + 1) W0 w1 := by rw [Hz.out] at hb1; exact hb1
  have hI0 : Inv m (atK m en 0) := inv_c0 hm
  go_wp2
  go_loopw [7] (fun s7 wr => ∃ (k : Nat) (ps : List Pr), s7 = .int .i64 k ∧ k ≤ 301 ∧ Procs wr (w.heap.size + 2) pb (np m) ps ∧ Sim (np m) (atK m en k).wait (atK m en k).states (atK m en k).seqs (atK m en k).done ps ∧ (atK m en k).all = k ∧ Inv m (atK m en k) ∧ Live m en k ∧ (∀ p ∈ ps, p.pushed ≤ 12 + 4 * k) ∧ Below (w.heap.size + 1) W0 wr) (fun s7 _ => 301 - (intOf s7).toNat)
  case atStart => exact ⟨0, ps, rfl, by omega, hP, hS, rfl, hI0, fun i hi => by omega, fun p hp => by have := hpu p hp; omega, hbl1⟩
  case round =>
    clear hP hS hpu hb1 hbl1 hI0
    obtain ⟨k, ps, rfl, hk, hP, hS, hall, hI, hLive, hpu, hbl⟩ := hrel
    have Hall : Hid ((atK m en k).all = k) := hall
    clear hall
    have hbw : Below w.heap.size w wr := hB0.trans (hbl.mono (by omega))
    by_cases hle : k ≤ 300
    · have hlp := leastProc_any wr (w.heap.size + 2) pb (np m) ps hP hS.len hnp1 hnp6
      go_wp2_with fail
      refine hlp.mono ?_
      rintro e2 w1 ⟨i, p, rfl, hpi, hU, g1⟩
      clear hlp
      have hP1 := hP.grow (kept_of_below' g1)
      have hPp := hP1.each p (List.mem_of_getElem? hpi)
      have hlq := hPp.core.blk.lt
      have hbB : w.heap.size + 2 ≤ wr.heap.size := Nat.le_trans hP.low (Nat.le_of_lt hP.arr.lt)
      cases ht : p.top with
      | none =>
        have hnx0 : nx en (atK m en k).wait = none := nx_none (fun e he => by rw [(next_of hI hS hU).2 ht] at he; simp at he)
        have hFew : Few m en := ⟨k, hle, hnx0⟩
        have Hnx0 : Hid (nx en (atK m en k).wait = none) := hnx0
        clear hnx0
        have hleast := pLeast_none w1 (w.heap.size + 2) p hPp ht
        go_wp2_with fail
        refine hleast.mono ?_
        rintro e3 w2 ⟨rfl, g2⟩
        clear hleast
        go_wp2
        go_ret2
        refine ⟨k, pb, rfl, ?_, .inl ⟨hle, hFew, Hnx0.out, ps, ?_, hS⟩⟩
        rotate_left
        · exact hP1.grow (KeptF.alloc (kept_of_below' g2) _)
        exact (hbw.trans ((g1.trans (g2.mono g1.size)).mono hbw.size)).alloc (Nat.le_trans hbw.size (Nat.le_trans g1.size g2.size)) _
      | some t =>
        have hleast := pLeast_some w1 (w.heap.size + 2) p t hPp ht
        have htl := hPp.top_least ht
        go_wp2_with fail
        refine hleast.mono ?_
        rintro e3 w2 ⟨rfl, g2⟩
        clear hleast
        have g12 : Below wr.heap.size wr w2 := g1.trans (g2.mono g1.size)
        have hbx : Blk (w2.alloc (.cells #[.int .i64 t.t, .int .i64 t.f, .int .i64 t.s, .int .i64 t.l] 120)) w2.heap.size #[.int .i64 t.t, .int .i64 t.f, .int .i64 t.s, .int .i64 t.l] 120 := heap_alloc_new w2 _
        by_cases hte : t.t < en
        · obtain ⟨j, e, hj, hep, hei, hnx⟩ := find_event hI hS hpi hU ht htl.1 hte
          obtain ⟨hev0, hev1, het0, het1, -⟩ := hI.ev e (List.mem_of_getElem? hj)
          have hin : i < np m := by rw [← hS.len]; exact get_lt hpi
          have hei2 : e.p.toNat = i := by omega
          have hst := hS.st i p hpi
          have hsq := hS.sent i p hpi
          have hnum := hS.num i p hpi
          have hsqb := hI.sq _ _ hsq
          have hdn := hS.dn i p hpi
          have hdlb := hI.dl _ _ hdn
          rw [Hall.out] at hdlb
          rw [Hall.out] at hsqb
          have hppu := hpu p (List.mem_of_getElem? hpi)
          have hInt : ∀ a ∈ p.its, InInt a.t := fun a ha => by
            obtain ⟨e', he', _, hea⟩ := mem_atP.1 ((hS.items i p hpi).mem_iff.1 ha)
            have := hI.ev e' he'
            rw [← hea]; unfold InInt; omega
          obtain ⟨hdd, hds, hdq, cause, hdw⟩ := doEv_out (m := m) (c := atK m en k) (j := j) (e := e) (st := p.st) (sent := p.sent) (dl := p.dn) (by rw [hei2]; exact hst) (by rw [hei2]; exact hsq) (by rw [hei2]; exact hdn)
          have hstep : atK m en (k + 1) = doEv m (atK m en k) j e := stepF_some hnx hj
          rw [hei2] at hdd hds hdq
          have hro := ruleOut_ok hm (num := p.num) (st := p.st) (sent := p.sent) (x := t) (by rw [← hei]; exact het0) (by omega)
          have hpe : e.p = p.num := by rw [hep, hnum]
          rw [hpe, hei] at hdd hds hdq hdw
          obtain ⟨ro, hro_eq⟩ : ∃ ro, ro = ruleOut m p.num p.st p.sent t := ⟨_, rfl⟩
          rw [← hro_eq] at hdd hds hdq hdw hro
          have Hdd : Hid ((atK m en (k + 1)).done = (atK m en k).done.set i (p.dn ++ [⟨t, ro.2.1⟩])) := by show _ = _; rw [hstep]; exact hdd
          have Hds : Hid ((atK m en (k + 1)).states = (atK m en k).states.set i ro.2.1) := by show _ = _; rw [hstep]; exact hds
          have Hdq : Hid ((atK m en (k + 1)).seqs = (atK m en k).seqs.set i ro.2.2) := by show _ = _; rw [hstep]; exact hdq
          have Hdw : Hid ((atK m en (k + 1)).wait = (atK m en k).wait.eraseIdx j ++ ro.1.map (toEv m cause)) := by show _ = _; rw [hstep]; exact hdw
          have Hall2 : Hid ((atK m en (k + 1)).all = k + 1) := by show _ = _; rw [hstep, doEv_all, Hall.out]
          have hI2 : Inv m (atK m en (k + 1)) := by rw [hstep]; exact inv_do hm hI hen hj (by rw [hei]; exact hte)
          have hLive2 : Live m en (k + 1) := fun i hi => by
            by_cases e : i = k
            · subst e; rw [hnx]; simp
            · exact hLive i (by omega)
          have Hro : Hid (ro = ruleOut m p.num p.st p.sent t) := hro_eq
          have Hei : Hid (e.it = t) := hei
          have Hei2 : Hid (e.p = (i : Int)) := hep
          have Hj : Hid ((atK m en k).wait[j]? = some e) := hj
          have Hpi : Hid (ps[i]? = some p) := hpi
          clear hdd hds hdq hdw hstep hro_eq hei hnx hpe hst hsq hj hpi hnum hdn
          -- the world in which the item lies
          have hPA := hP.grow (KeptF.alloc (kept_of_below' g12) (.cells #[.int .i64 t.t, .int .i64 t.f, .int .i64 t.s, .int .i64 t.l] 120))
          have hblA : Below (w.heap.size + 1) W0 (w2.alloc (.cells #[.int .i64 t.t, .int .i64 t.f, .int .i64 t.s, .int .i64 t.l] 120)) := hbl.trans ((g12.mono (by omega)).alloc (Nat.le_trans (by omega) g12.size) _)
          have hzA : w2.heap.size < (w2.alloc (.cells #[.int .i64 t.t, .int .i64 t.f, .int .i64 t.s, .int .i64 t.l] 120)).heap.size := by simp
          have hlA : wr.heap.size ≤ w2.heap.size := g12.size
          have hlq2 : p.qb < w2.heap.size := by have := ((hP.each p (List.mem_of_getElem? Hpi.out)).core.blk.lt); omega
          have hpop := pPop (w2.alloc (.cells #[.int .i64 t.t, .int .i64 t.f, .int .i64 t.s, .int .i64 t.l] 120)) (w.heap.size + 2) p t (hPA.each p (List.mem_of_getElem? Hpi.out)) ht hInt (by omega)
          go_wp2_with fail
          refine hpop.mono ?_
          rintro e4 w3 ⟨rfl, p1, hT, hpp1, hits⟩
          clear hpop
          have hPF : ∀ g, PF p g → g < wr.heap.size := fun g hg => ((hP.each p (List.mem_of_getElem? Hpi.out)).lt hg).2
          have hP3 := hPA.turned Hpi.out hT
          have hS3 := hS.pop Hpi.out Hj.out Hei2.out hT.num hT.st hT.sent hT.dn (by rw [Hei.out]; exact hits)
          have hx3 := hbx.keep hT.kept (fun hf => by have := hPF _ hf; omega)
          have hk3 : Below (w.heap.size + 1) (w2.alloc (.cells #[.int .i64 t.t, .int .i64 t.f, .int .i64 t.s, .int .i64 t.l] 120)) w3 := KeptF.below hT.kept (by omega) (fun i hi => by have := ((hPA.each p (List.mem_of_getElem? Hpi.out)).lt hi).1; omega)
          have hbl3 : Below (w.heap.size + 1) W0 w3 := hblA.trans hk3
          have hbw3 : Below w.heap.size w w3 := hB0.trans (hbl3.mono (by omega))
          have hi3 : (ps.set i p1)[i]? = some p1 := List.getElem?_set_self (get_lt Hpi.out)
          have Hi3 : Hid ((ps.set i p1)[i]? = some p1) := hi3
          have hp1at := hP3.each p1 (List.mem_of_getElem? hi3)
          have hsz3 : w.heap.size + 2 ≤ w3.heap.size := Nat.le_trans hP3.low (Nat.le_of_lt hP3.arr.lt)
          have hdo := pdo_any w3 (w.heap.size + 2) Bm lv rv sv m R p1 t hp1at hm (hM.keep (hbw3.mono hBm)) (by omega) hsz3 (by have := Hei.out; rw [← this]; exact het0) (by have := Hei.out; rw [← this]; exact het1) (by rw [hT.sent]; omega) (by rw [hT.sent]; omega) (by rw [hT.dn]; omega)
          have hroe : ruleOut m p1.num p1.st p1.sent t = ro := by rw [hT.num, hT.st, hT.sent, ← Hro.out]
          rw [hroe, show (Value.pointer (some ⟨p1.qb, 0, none⟩)) = .pointer (some ⟨p.qb, 0, none⟩) by rw [hT.qb]] at hdo
          clear hroe
          have hm3 : Blk w3 w.heap.size #[.int .i64 m.procs, .int .i64 m.states, .int .i64 m.loads, lv, rv, sv] 31 := (hbl3.block _ (Nat.lt_succ_self _)).trans hmb
          have m0 : w3.cell? ⟨w.heap.size, 0, none⟩ = some (.int .i64 m.procs) := hm3.cell 0
          have m1 : w3.cell? ⟨w.heap.size, 1, none⟩ = some (.int .i64 m.states) := hm3.cell 1
          have m2 : w3.cell? ⟨w.heap.size, 2, none⟩ = some (.int .i64 m.loads) := hm3.cell 2
          have m3 : w3.cell? ⟨w.heap.size, 3, none⟩ = some lv := hm3.cell 3
          have m4 : w3.cell? ⟨w.heap.size, 4, none⟩ = some rv := hm3.cell 4
          have m5 : w3.cell? ⟨w.heap.size, 5, none⟩ = some sv := hm3.cell 5
          have t0 : w3.cell? ⟨w2.heap.size, 0, none⟩ = some (.int .i64 t.t) := hx3.cell 0
          have t1 : w3.cell? ⟨w2.heap.size, 1, none⟩ = some (.int .i64 t.f) := hx3.cell 1
          have t2 : w3.cell? ⟨w2.heap.size, 2, none⟩ = some (.int .i64 t.s) := hx3.cell 2
          have t3 : w3.cell? ⟨w2.heap.size, 3, none⟩ = some (.int .i64 t.l) := hx3.cell 3
          go_wp2_with fail
          refine hdo.mono ?_
          rintro e5 w4 ⟨v, rfl, hO, hk4, dv2, hp2, hft, hvp⟩
          clear hdo m0 m1 m2 m3 m4 m5 t0 t1 t2 t3 hi3
          have hP4 := hP3.turn Hi3.out hk4 hp2 rfl hft
          have hS4 := hS3.set (p' := { p1 with st := ro.2.1, sent := ro.2.2, dnv := dv2, dn := p1.dn ++ [⟨t, ro.2.1⟩] }) Hi3.out rfl rfl
          have hbl4 : Below (w.heap.size + 1) W0 w4 := hbl3.trans (KeptF.below hk4 (by omega) (fun i hi => by have := (hp1at.lt hi).1; omega))
          have hpu4 : ∀ q ∈ (ps.set i p1).set i { p1 with st := ro.2.1, sent := ro.2.2, dnv := dv2, dn := p1.dn ++ [⟨t, ro.2.1⟩] }, q.pushed ≤ 12 + 4 * k := fun q hq => by
            obtain ⟨n', hn'⟩ := List.getElem?_of_mem hq
            rcases set_get hn' with ⟨_, e2⟩ | ⟨_, e2⟩
            · rw [e2]; show p1.pushed ≤ _; rw [hpp1]; exact hppu
            · rcases set_get e2 with ⟨_, e3⟩ | ⟨_, e3⟩
              · rw [e3, hpp1]; exact hppu
              · exact hpu q (List.mem_of_getElem? e3)
          have hap4 : ∀ q ∈ (ps.set i p1).set i { p1 with st := ro.2.1, sent := ro.2.2, dnv := dv2, dn := p1.dn ++ [⟨t, ro.2.1⟩] }, ∀ g, PF q g → v.ownBlock ≠ some g := fun q hq g hg e' => by
            have h1 := (hO.lt e').1
            obtain ⟨n', hn'⟩ := List.getElem?_of_mem hq
            rcases set_get hn' with ⟨_, e2⟩ | ⟨_, e2⟩
            · subst e2
              exact hvp g e' hg
            · have := ((hP3.each q (List.mem_of_getElem? e2)).lt hg).2; omega
          generalize (ps.set i p1).set i { p1 with st := ro.2.1, sent := ro.2.2, dnv := dv2, dn := p1.dn ++ [⟨t, ro.2.1⟩] } = ps4 at *
          have Hdn1 : Hid (p1.dn = p.dn) := hT.dn
          rw [Hdn1.out] at hS4
          obtain ⟨aov, capv, hvf, hcapv⟩ := hO.form'
          subst hvf
          have hrl := hro.1
          clear hP3 hS3 hx3 hm3 hP hS hPA hbx hp1at hp2 hk4 hT hits hInt hft hvp
          go_wp2
          go_loopw [44] (fun s44 wr => ∃ (l : Nat) (ps : List Pr), s44 = .int .i64 l ∧ l ≤ ro.1.length ∧ Procs wr (w.heap.size + 2) pb (np m) ps ∧ Sim (np m) ((atK m en k).wait.eraseIdx j ++ (ro.1.map (toEv m cause)).take l) ((atK m en k).states.set i ro.2.1) ((atK m en k).seqs.set i ro.2.2) ((atK m en k).done.set i (p.dn ++ [⟨t, ro.2.1⟩])) ps ∧ (∀ p ∈ ps, p.pushed ≤ 12 + 4 * k + l) ∧ (∀ q ∈ ps, ∀ g, PF q g → (Value.slice aov ro.1.length capv).ownBlock ≠ some g) ∧ Own emE wr w3.heap.size (.slice aov ro.1.length capv) ro.1 ∧ Below (w.heap.size + 1) W0 wr) (fun s44 _ => ro.1.length - (intOf s44).toNat)
          case atStart => exact ⟨0, ps4, rfl, Nat.zero_le _, hP4, by rw [List.take_zero, List.append_nil]; exact hS4, fun p hp => by have := hpu4 p hp; omega, hap4, hO, hbl4⟩
          case round =>
            clear hP4 hS4 hpu4 hap4 hO hbl4
            obtain ⟨l, ps5, rfl, hl, hP, hS, hpu5, hap, hO, hbl5⟩ := hrel
            have hbw5 : Below w.heap.size w wr := hB0.trans (hbl5.mono (by omega))
            have hsz5 : w.heap.size + 2 ≤ wr.heap.size := Nat.le_trans hP.low (Nat.le_of_lt hP.arr.lt)
            by_cases hlt : l < ro.1.length
            · obtain ⟨x, hx⟩ := get_of_lt hlt
              obtain ⟨⟨hxt0, hxt1⟩, hxk0, hxk1, y, hy, hy0, hy1⟩ := hro.2 x (List.mem_of_getElem? hx)
              obtain ⟨g, cap', hg, _⟩ := Own.at_ hO hx
              simp only [Value.slice.injEq] at hg
              obtain ⟨rfl, -, -⟩ := hg
              have a0 := hO.cell hx (k := 0) (u := .int .i64 x.it.t) rfl
              have a1 := hO.cell hx (k := 1) (u := .int .i64 x.it.f) rfl
              have a2 := hO.cell hx (k := 2) (u := .int .i64 x.it.s) rfl
              have a3 := hO.cell hx (k := 3) (u := .int .i64 x.it.l) rfl
              have a4 := hO.cell hx (k := 4) (u := .int .i64 0) rfl
              have a5 := hO.cell hx (k := 5) (u := .int .i64 x.k) rfl
              have a0 : wr.cell? ⟨g, l * 6, none⟩ = some (.int .i64 x.it.t) := a0
              have a1 : wr.cell? ⟨g, l * 6 + 1, none⟩ = some (.int .i64 x.it.f) := a1
              have a2 : wr.cell? ⟨g, l * 6 + 2, none⟩ = some (.int .i64 x.it.s) := a2
              have a3 : wr.cell? ⟨g, l * 6 + 3, none⟩ = some (.int .i64 x.it.l) := a3
              have a4 : wr.cell? ⟨g, l * 6 + 4, none⟩ = some (.int .i64 0) := a4
              have a5 : wr.cell? ⟨g, l * 6 + 5, none⟩ = some (.int .i64 x.k) := a5
              obtain ⟨aol, capl, hlv, hcapl⟩ := RowsAt.form hM.links
              subst hlv
              obtain ⟨lb, lo, hao, hlbB, hlc⟩ := RowsAt.at_ (hM.keep (hbw5.mono hBm)).links hy
              subst hao
              have y1 := hlc 1 (.int .i64 y.t) rfl
              have m3 : wr.cell? ⟨w.heap.size, 3, none⟩ = some (.slice (some ⟨lb, lo, none⟩) m.links.length capl) := (hbl5.cell (p := ⟨w.heap.size, 3, none⟩) (Nat.lt_succ_self _)).trans (hmb.cell 3)
              obtain ⟨q, hq⟩ := get_of_lt (d := ps5) (k := y.t.toNat) (by rw [hS.len]; unfold np; omega)
              have cq := hP.cell hq
              have hlpb := hP.arr.lt
              have hlq := (hP.each q (List.mem_of_getElem? hq)).core.blk.lt
              have hyn : y.t < (np m : Int) := by unfold np; omega
              have hqpu := hpu5 q (List.mem_of_getElem? hq)
              have hPd := (hP.grow ((KeptF.refl (fun _ => False) wr).alloc (.cells #[.int .i64 x.it.t, .int .i64 x.it.f, .int .i64 x.it.s, .int .i64 x.it.l, .int .i64 0, .int .i64 x.k] 159))).grow (KeptF.drew (KeptF.refl (fun _ => False) _))
              have hpush := pPush _ (w.heap.size + 2) q x.it (hPd.each q (List.mem_of_getElem? hq)) (by simp; omega) (by unfold InInt; omega) (by omega)
              have hlg : g < wr.heap.size := block_lt_of_cell a0
              have hllb : lb < wr.heap.size := block_lt_of_cell y1
              have hlw : w.heap.size < wr.heap.size := by omega
              have Hx : Hid (ro.1[l]? = some x) := hx
              have Hy : Hid (m.links[x.k.toNat]? = some y) := hy
              have Hq : Hid (ps5[y.t.toNat]? = some q) := hq
              clear hx hy hq hlc
              go_wp2
              refine still_tail' 14 (by kernel_rfl) (by kernel_rfl) ?_
              simp only [List.take_succ_cons, List.take_zero, List.drop_succ_cons, List.drop_zero]
              repeat still_step
              refine wpStill_nil ?_
              go_wp2_with fail
              refine hpush.mono ?_
              rintro e6 w6 ⟨rfl, q', hT, hpp, hits⟩
              clear hpush a0 a1 a2 a3 a4 a5 y1 m3 cq
              go_wp2
              go_roundw
              case rel =>
                have hkd : KeptF (fun _ => False) wr (wr.alloc (.cells #[.int .i64 x.it.t, .int .i64 x.it.f, .int .i64 x.it.s, .int .i64 x.it.l, .int .i64 0, .int .i64 x.k] 159)).drew := ((KeptF.refl _ wr).alloc _).drew
                have hqP := hPd.each q (List.mem_of_getElem? Hq.out)
                have hW : (ro.1.map (toEv m cause)).take (l + 1) = (ro.1.map (toEv m cause)).take l ++ [toEv m cause x] := by
                  have h2 : (ro.1.map (toEv m cause))[l]? = some (toEv m cause x) := by rw [List.getElem?_map, Hx.out]; rfl
                  rw [List.take_add_one, h2]; rfl
                refine ⟨l + 1, ps5.set y.t.toNat q', by go_num, hlt, hPd.turned Hq.out hT, ?_, ?_, ?_, ?_, ?_⟩
                · rw [hW, ← List.append_assoc]
                  refine hS.push Hq.out ?_ hT.num hT.st hT.sent hT.dn hits
                  show linkTo m x.k = _
                  rw [linkTo_at Hy.out]; omega
                · intro z hz
                  obtain ⟨n', hn'⟩ := List.getElem?_of_mem hz
                  rcases set_get hn' with ⟨_, e2⟩ | ⟨_, e2⟩
                  · rw [e2, hpp]; omega
                  · have := hpu5 z (List.mem_of_getElem? e2); omega
                · intro z hz g' hg' e'
                  obtain ⟨n', hn'⟩ := List.getElem?_of_mem hz
                  rcases set_get hn' with ⟨_, e2⟩ | ⟨_, e2⟩
                  · subst e2
                    rcases hT.foot g' hg' with h1 | h1
                    · exact hap q (List.mem_of_getElem? Hq.out) g' h1 e'
                    · have h2 := (hO.lt e').2
                      simp at h1; omega
                  · exact hap z (List.mem_of_getElem? e2) g' hg' e'
                · exact (hO.keep hkd (fun _ _ e => e)).keep hT.kept (fun g' hg' hf => hap q (List.mem_of_getElem? Hq.out) g' hf hg')
                · have hk1 : Below (w.heap.size + 1) wr (wr.alloc (.cells #[.int .i64 x.it.t, .int .i64 x.it.f, .int .i64 x.it.s, .int .i64 x.it.l, .int .i64 0, .int .i64 x.k] 159)).drew := KeptF.below hkd (by omega) (fun i hi => hi.elim)
                  exact hbl5.trans (hk1.trans (KeptF.below hT.kept (by simp; omega) (fun i hi => by have := (hqP.lt hi).1; omega)))
              case measure => simp [intOf]; omega
            · have hle2 : l = ro.1.length := by omega
              have HS : Hid (Sim (np m) (atK m en (k + 1)).wait (atK m en (k + 1)).states (atK m en (k + 1)).seqs (atK m en (k + 1)).done ps5) := by
                show Sim _ _ _ _ _ _
                rw [Hdw.out, Hds.out, Hdq.out, Hdd.out]
                rw [hle2, List.take_of_length_le (by simp)] at hS
                exact hS
              go_wp2
              go_roundw
              case rel => exact ⟨k + 1, ps5, by go_num, by omega, hP, HS.out, Hall2.out, hI2, hLive2, fun p hp => by have := hpu5 p hp; omega, hbl5⟩
              case measure => simp [intOf]; omega
        · have hnx0 : nx en (atK m en k).wait = none := nx_none (fun e he => by
            have h1 := (next_of hI hS hU).1 t ht e he
            unfold It.lt at h1; omega)
          have hFew : Few m en := ⟨k, hle, hnx0⟩
          have Hnx0 : Hid (nx en (atK m en k).wait = none) := hnx0
          clear hnx0
          go_wp2
          go_ret2
          refine ⟨k, pb, rfl, ?_, .inl ⟨hle, hFew, Hnx0.out, ps, ?_, hS⟩⟩
          rotate_left
          · exact hP.grow (KeptF.alloc (kept_of_below' g12) _)
          exact (hbw.trans (g12.mono hbw.size)).alloc (Nat.le_trans hbw.size g12.size) _
    · have hke : k = 301 := by omega
      subst hke
      go_wp2
      go_ret2
      exact ⟨301, pb, rfl, hbw, .inr ⟨rfl, few_not hLive⟩⟩

end Go.Proofs.Ytaieackeflmhgaa

namespace Go.Proofs.Ytaieackeflmhgaa
open Go.RowKit Go.Sort Go.Maps

def fewB (m : Mdl) (en : Int) : Bool := (List.range 301).any (fun k => (nx en (atK m en k).wait).isNone)
theorem fewB_iff {m : Mdl} {en : Int} : fewB m en = true ↔ Few m en := by
  simp only [fewB, List.any_eq_true, List.mem_range, Option.isNone_iff_eq_none, Few]
  constructor
  · rintro ⟨k, h1, h2⟩; exact ⟨k, by omega, h2⟩
  · rintro ⟨k, h1, h2⟩; exact ⟨k, by omega, h2⟩

/-- what P3 asks: the error and its number -/
def answer (m : Mdl) (en : Int) : Int × Int := if valid m en = (0, 0) then (if fewB m en = true then (0, 0) else (6, 0)) else valid m en

theorem valid_zero {m : Mdl} {en : Int} (h : (valid m en).1 = 0) : valid m en = (0, 0) := by
  unfold valid at h ⊢
  split <;> rename_i h1
  · rw [if_pos h1] at h
    split <;> rename_i h2
    · rw [if_pos h2] at h; cases h
    · rw [if_neg h2] at h
      split <;> rename_i h3
      · rw [if_pos h3] at h; cases h
      · rw [if_neg h3] at h
        split <;> rename_i h4
        · rw [if_pos h4] at h; cases h
        · rw [if_neg h4] at h
          split <;> rename_i h5
          · rfl
          · rw [if_neg h5] at h; cases h
  · rw [if_neg h1] at h; cases h

set_option maxRecDepth 100000 in
set_option maxHeartbeats 4000000 in
theorem refCheck_any (m : Mdl) (lv rv sv : Value) (R : List RuleV) (B : Nat) (en : Int) (w : World) (h : ModelAt w B lv rv sv m R) (hB : B ≤ w.heap.size) (hne : ∀ r ∈ m.rules, r.es.length ≤ 5864062014634) :
    Calls Try.prog 17 #[.agg #[.int .i64 m.procs, .int .i64 m.states, .int .i64 m.loads, lv, rv, sv], .int .i64 en] w fun e w' => ∃ pv : Value, e = .returned (.tuple #[pv, .int .i64 (answer m en).1, .int .i64 (answer m en).2]) ∧ Below w.heap.size w w' ∧
      (answer m en = (0, 0) → ∃ B' cb k wv sb qb db kb D C, pv = .pointer (some ⟨cb, 0, none⟩) ∧ w.heap.size ≤ B' ∧ k ≤ 300 ∧ nx en (atK m en k).wait = none ∧ CAt w' B' cb lv rv sv m wv sb qb db kb D C (atK m en k)) := by
  have hB0 : Below w.heap.size w (w.alloc (.cells #[.int .i64 m.procs, .int .i64 m.states, .int .i64 m.loads, lv, rv, sv] 26)) := (Below.refl _ _).alloc (Nat.le_refl _) _
  have hmb : Blk (w.alloc (.cells #[.int .i64 m.procs, .int .i64 m.states, .int .i64 m.loads, lv, rv, sv] 26)) w.heap.size #[.int .i64 m.procs, .int .i64 m.states, .int .i64 m.loads, lv, rv, sv] 26 := heap_alloc_new w _
  have hval := refValid_any m lv rv sv R B en (w.alloc (.cells #[.int .i64 m.procs, .int .i64 m.states, .int .i64 m.loads, lv, rv, sv] 26)) (h.keep (hB0.mono hB)) (Nat.le_trans hB hB0.size) hne
  go_enter Try.func17, Try.ntmps17
  go_wp2_with fail
  refine hval.mono ?_
  rintro e1 w1 ⟨rfl, hb1⟩
  clear hval
  have hb01 : Below w.heap.size w w1 := hB0.trans (hb1.mono hB0.size)
  have hm1 : Blk w1 w.heap.size #[.int .i64 m.procs, .int .i64 m.states, .int .i64 m.loads, lv, rv, sv] 26 := hmb.keep (kept_of_below' hb1) (fun e => e)
  by_cases hv : (valid m en).1 = 0
  · have hv2 := valid_zero hv
    have Hv : Hid (valid m en = (0, 0)) := hv2
    rw [hv2]
    obtain ⟨hR, hen0, hen⟩ := right_of_valid hv2
    have hseq := sequel_any m lv rv sv R B en w1 (h.keep (hb01.mono hB)) (Nat.le_trans hB hb01.size) hR hen
    have c0 : w1.cell? ⟨w.heap.size, 0, none⟩ = some (.int .i64 m.procs) := hm1.cell 0
    have c1 : w1.cell? ⟨w.heap.size, 1, none⟩ = some (.int .i64 m.states) := hm1.cell 1
    have c2 : w1.cell? ⟨w.heap.size, 2, none⟩ = some (.int .i64 m.loads) := hm1.cell 2
    have c3 : w1.cell? ⟨w.heap.size, 3, none⟩ = some lv := hm1.cell 3
    have c4 : w1.cell? ⟨w.heap.size, 4, none⟩ = some rv := hm1.cell 4
    have c5 : w1.cell? ⟨w.heap.size, 5, none⟩ = some sv := hm1.cell 5
    clear hv hv2
    go_wp2_with fail
    refine hseq.mono ?_
    rintro e2 w2 ⟨cb, b, rfl, hb2, hcase⟩
    clear hseq
    have hb02 : Below w.heap.size w w2 := hb01.trans (hb2.mono hb01.size)
    rcases hcase with ⟨rfl, k, wv, sb, qb, db, kb, D, C, hk, hnx, hC⟩ | ⟨rfl, hfew⟩
    · have Hans : Hid (answer m en = (0, 0)) := by show _ = _; rw [answer, if_pos Hv.out, if_pos (fewB_iff.2 ⟨k, hk, hnx⟩)]
      go_wp2
      go_ret3
      refine ⟨.pointer (some ⟨cb, 0, none⟩), by rw [Hans.out]; rfl, hb02, fun _ => ⟨_, cb, k, wv, sb, qb, db, kb, D, C, rfl, ?_, hk, hnx, hC⟩⟩
      have := hb01.size; omega
    · have Hans : Hid (answer m en = (6, 0)) := by
        show _ = _
        rw [answer, if_pos Hv.out, if_neg]
        intro hf; exact hfew (fewB_iff.1 hf)
      clear hfew
      go_wp2
      go_ret3
      refine ⟨.pointer none, by rw [Hans.out]; rfl, hb02, fun hx => ?_⟩
      rw [Hans.out] at hx
      cases hx
  · have Hans : Hid (answer m en = valid m en) := by
      show _ = _
      rw [answer, if_neg]
      intro hx; exact hv (by rw [hx])
    have Hnz : Hid (valid m en ≠ (0, 0)) := fun hx => hv (by rw [hx])
    go_wp2
    go_ret3
    refine ⟨.pointer none, by rw [Hans.out]; rfl, hb01, fun hx => ?_⟩
    rw [Hans.out] at hx
    exact absurd hx Hnz.out

end Go.Proofs.Ytaieackeflmhgaa

namespace Go.Proofs.Ytaieackeflmhgaa
open Go.RowKit Go.Sort Go.Maps

theorem answer_err {m : Mdl} {en f j : Int} (h : valid m en = (f, j)) (hf : f ≠ 0) : answer m en = (f, j) := by
  rw [answer, if_neg, h]
  intro e
  rw [h] at e
  cases e
  exact hf rfl

set_option maxRecDepth 100000 in
set_option maxHeartbeats 4000000 in
theorem check_any (m : Mdl) (lv rv sv : Value) (R : List RuleV) (B : Nat) (en : Int) (w : World) (h : ModelAt w B lv rv sv m R) (hB : B ≤ w.heap.size) (hne : ∀ r ∈ m.rules, r.es.length ≤ 5864062014634) :
    Calls Try.prog 16 #[.agg #[.int .i64 m.procs, .int .i64 m.states, .int .i64 m.loads, lv, rv, sv], .int .i64 en] w fun e w' => e = .returned (.tuple #[.int .i64 (answer m en).1, .int .i64 (answer m en).2]) ∧ Below w.heap.size w w' := by
  obtain ⟨W0, hW0⟩ : ∃ W0, W0 = w.alloc (.cells #[.int .i64 m.procs, .int .i64 m.states, .int .i64 m.loads, lv, rv, sv] 31) := ⟨_, rfl⟩
  have HW0 : Hid (W0 = w.alloc (.cells #[.int .i64 m.procs, .int .i64 m.states, .int .i64 m.loads, lv, rv, sv] 31)) := hW0
  have hB0 : Below w.heap.size w W0 := by rw [hW0]; exact (Below.refl _ _).alloc (Nat.le_refl _) _
  have hmb : Blk W0 w.heap.size #[.int .i64 m.procs, .int .i64 m.states, .int .i64 m.loads, lv, rv, sv] 31 := by rw [hW0]; exact heap_alloc_new w _
  have k0 := Gr.cells (v := .int .i64 m.procs) (hmb.cell 0)
  have k1 := Gr.cells (v := .int .i64 m.states) (hmb.cell 1)
  have k2 := Gr.cells (v := .int .i64 m.loads) (hmb.cell 2)
  have k3 := Gr.cells (v := lv) (hmb.cell 3)
  have k4 := Gr.cells (v := rv) (hmb.cell 4)
  have k5 := Gr.cells (v := sv) (hmb.cell 5)
  have hBW : B ≤ W0.heap.size := Nat.le_trans hB hB0.size
  have hM0 := h.keep (hB0.mono hB)
  have hg0 := Gr.refl W0
  have hl : ∃ ao cap, lv = .slice ao m.links.length cap := by obtain ⟨a, b, c, _⟩ := RowsAt.form h.links; exact ⟨a, b, c⟩
  have hr : ∃ ao cap, rv = .slice ao m.rules.length cap := by obtain ⟨a, b, c, _⟩ := RowsAt.form h.rules.1; rw [h.rlen] at c; exact ⟨a, b, c⟩
  have hs : ∃ ao cap, sv = .slice ao m.starts.length cap := by obtain ⟨a, b, c, _⟩ := RowsAt.form h.starts; exact ⟨a, b, c⟩
  clear hW0
  have hf := fits_any m lv rv sv hl hr hs W0
  clear hl hr hs
  go_enter Try.func16, Try.ntmps16
  go_upto_region 1 with fail
  rw [← HW0.out]
  clear HW0
  go_wp2_with fail
  refine hf.mono ?_
  rintro e1 w1 ⟨rfl, g1⟩
  clear hf
  have hg1 : Gr W0 w1 := g1
  cases el : limB m with
  | false =>
    have HA : Hid (answer m en = (1, 0)) := answer_err (valid_range el) (by decide)
    clear el
    go_wp2
    go_ret2
    exact ⟨ret_two HA.out.symm, Gr.below hg1 hB0⟩
  | true =>
    have lim := lim_of_limB el
    have HL : Hid (limB m = true) := el
    clear el
    have hlk := fwLink_any m lim lv rv sv R B w1 (hM0.keep (hg1.mono hBW)) (Nat.le_trans hBW hg1.size)
    obtain ⟨a, ha⟩ : ∃ a, firstIx (linkBad m) m.links = a := ⟨_, rfl⟩
    rw [ha] at hlk
    have Ha : Hid (firstIx (linkBad m) m.links = a) := ha
    clear ha
    go_wp2_with fail
    refine hlk.mono ?_
    rintro e2 w2 ⟨rfl, g2⟩
    clear hlk
    have hg2 : Gr W0 w2 := Gr.trans hg1 g2
    by_cases h0 : 0 ≤ a
    · have HA : Hid (answer m en = (2, a)) := answer_err (valid_link HL.out Ha.out h0) (by decide)
      go_wp2
      go_ret2
      exact ⟨ret_two HA.out.symm, Gr.below hg2 hB0⟩
    · have H1 : Hid (firstIx (linkBad m) m.links = -1) := (firstIx_neg (by rw [Ha.out]; exact h0)).1
      have hrl := firstWrongRule_any m lim lv rv sv R B w2 (hM0.keep (hg2.mono hBW)) (Nat.le_trans hBW hg2.size) hne
      go_wp2_with fail
      refine hrl.mono ?_
      rintro e3 w3 ⟨b, rfl, hfb, g3⟩
      clear hrl
      have hg3 : Gr W0 w3 := Gr.trans hg2 g3
      have Hb : Hid (wrongRule m = b) := (wrongRule_of hfb).symm
      have hbn : 0 ≤ b ∨ b = -1 := by
        rcases hfb with ⟨e, _⟩ | ⟨i, e, _⟩ <;> omega
      clear hfb
      by_cases h0 : 0 ≤ b
      · have HA : Hid (answer m en = (3, b)) := answer_err (valid_rule HL.out H1.out Hb.out h0) (by decide)
        go_wp2
        go_ret2
        exact ⟨ret_two HA.out.symm, Gr.below hg3 hB0⟩
      · have H2 : Hid (wrongRule m = -1) := by show _ = _; rw [Hb.out]; omega
        have hst := fwStart_any m lim lv rv sv R B w3 (hM0.keep (hg3.mono hBW)) (Nat.le_trans hBW hg3.size)
        obtain ⟨c, hc⟩ : ∃ c, firstIx (startBad m) m.starts = c := ⟨_, rfl⟩
        rw [hc] at hst
        have Hc : Hid (firstIx (startBad m) m.starts = c) := hc
        clear hc
        go_wp2_with fail
        refine hst.mono ?_
        rintro e4 w4 ⟨rfl, g4⟩
        clear hst
        have hg4 : Gr W0 w4 := Gr.trans hg3 g4
        by_cases h0 : 0 ≤ c
        · have HA : Hid (answer m en = (4, c)) := answer_err (valid_start HL.out H1.out H2.out Hc.out h0) (by decide)
          go_wp2
          go_ret2
          exact ⟨ret_two HA.out.symm, Gr.below hg4 hB0⟩
        · have H3 : Hid (firstIx (startBad m) m.starts = -1) := (firstIx_neg (by rw [Hc.out]; exact h0)).1
          have hwi := within_any en 0 200 w4
          cases e5 : withinB en 0 200 with
          | false =>
            have HA : Hid (answer m en = (5, 0)) := answer_err (valid_end HL.out H1.out H2.out H3.out e5) (by decide)
            rw [e5] at hwi
            clear e5
            go_wp2_with fail
            refine hwi.mono ?_
            rintro e6 w5 ⟨rfl, rfl⟩
            go_wp2
            go_ret2
            exact ⟨ret_two HA.out.symm, Gr.below hg4 hB0⟩
          | true =>
            rw [e5] at hwi
            go_wp2_with fail
            refine hwi.mono ?_
            rintro e6 w5 ⟨rfl, rfl⟩
            have hg5 := hg4
            have HV : Hid (valid m en = (0, 0)) := valid_ok HL.out H1.out H2.out H3.out e5
            obtain ⟨hRt, hen0, hen⟩ := right_of_valid HV.out
            have hcnt := events_any w5 B lv rv sv m R en (hM0.keep (hg5.mono hBW)) (Nat.le_trans hBW hg5.size) hRt hen
            go_wp2_with fail
            refine hcnt.mono ?_
            rintro e6 w6 ⟨n, pb, rfl, g6, hcase⟩
            clear hcnt
            have hg6 : Gr W0 w6 := Gr.trans hg5 g6
            rcases hcase with ⟨hn, hF, -⟩ | ⟨rfl, hF⟩
            · have HA : Hid (answer m en = (0, 0)) := by show _ = _; rw [answer, if_pos HV.out, if_pos (fewB_iff.2 hF)]
              clear hF
              go_wp2
              go_ret2
              exact ⟨ret_two HA.out.symm, Gr.below hg6 hB0⟩
            · have HA : Hid (answer m en = (6, 0)) := by
                show _ = _
                rw [answer, if_pos HV.out, if_neg]
                intro hf; exact hF (fewB_iff.1 hf)
              clear hF
              go_wp2
              go_ret2
              exact ⟨ret_two HA.out.symm, Gr.below hg6 hB0⟩

end Go.Proofs.Ytaieackeflmhgaa

