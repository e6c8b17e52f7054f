/-
  Net.Over: whether no event waits.
  The law over: Over says whether all is done.
  The law Moves: true, whatever the model and the steps.
-/
import Derived.Test.YtkobkilfbbalaaaK17
namespace Go.Proofs.Ytkobkilfbbalaaa
open Go.RowKit Go.Sort Go.Maps

def waitB (p : Pr) : Bool := match p.top with
  | some t => decide (t.t < p.en)
  | none => false

set_option maxRecDepth 100000 in
set_option maxHeartbeats 4000000 in
theorem waits_any (w : World) (B : Nat) (p : Pr) (h : PAt w B p) :
    Calls Try.prog 43 #[.pointer (some ⟨p.qb, 0, none⟩)] w fun e w' => e = .returned (.bool (waitB p)) ∧ Below w.heap.size w w' := by
  have hq := h.core.blk.lt
  cases ht : p.top with
  | none =>
    have HW : Hid (waitB p = false) := by show _ = _; unfold waitB; rw [ht]
    have hle := pLeast_none w B p h ht
    clear ht
    go_enter Try.func43, Try.ntmps43
    go_wp2_with fail
    refine hle.mono ?_
    rintro e1 w1 ⟨rfl, hb1⟩
    clear hle
    have hbA : Below w.heap.size w (w1.alloc (.cells #[.int .i64 0, .int .i64 0, .int .i64 0, .int .i64 0] 102)) := hb1.alloc hb1.size _
    go_upto_region 2 with fail
    refine wp_region_quiet_below (by kernel_rfl) (by kernel_rfl) ?_
    repeat (go_big_quiet_step (fail))
    refine wpQuiet_nil ?_
    intro wq hw'
    have hbq := below_of_regrown hw'
    clear hw'
    go_wp2
    go_ret
    exact ⟨ret_bool HW.out.symm, hbA.trans (hbq.mono hbA.size)⟩
  | some t =>
    have HW : Hid (waitB p = decide (t.t < p.en)) := by show _ = _; unfold waitB; rw [ht]
    have hle := pLeast_some w B p t h ht
    clear ht
    go_enter Try.func43, Try.ntmps43
    go_wp2_with fail
    refine hle.mono ?_
    rintro e1 w1 ⟨rfl, hb1⟩
    clear hle
    obtain ⟨W1, hW1⟩ : ∃ W1, W1 = w1.alloc (.cells #[.int .i64 t.t, .int .i64 t.f, .int .i64 t.s, .int .i64 t.l] 102) := ⟨_, rfl⟩
    have HW1 : Hid (W1 = w1.alloc (.cells #[.int .i64 t.t, .int .i64 t.f, .int .i64 t.s, .int .i64 t.l] 102)) := hW1
    have hbA : Below w.heap.size w W1 := by rw [hW1]; exact hb1.alloc hb1.size _
    have hgb : Blk W1 w1.heap.size #[.int .i64 t.t, .int .i64 t.f, .int .i64 t.s, .int .i64 t.l] 102 := by rw [hW1]; exact heap_alloc_new w1 _
    clear hW1
    go_upto_region 2 with fail
    rw [← HW1.out]
    clear HW1
    have k0 := cell_regrown (v := .int .i64 t.t) (hgb.cell 0)
    have k5 := cell_regrown ((hbA.cell (p := ⟨p.qb, 5, none⟩) hq).trans (h.core.blk.cell 5 : w.cell? ⟨p.qb, 5, none⟩ = some (.int .i64 p.en)))
    refine wp_region_quiet_below (by kernel_rfl) (by kernel_rfl) ?_
    repeat (go_big_quiet_step (fail))
    refine wpQuiet_nil ?_
    intro wq hw'
    have hbq := below_of_regrown hw'
    clear hw' k0 k5
    go_wp2
    go_ret
    exact ⟨ret_bool HW.out.symm, hbA.trans (hbq.mono hbA.size)⟩

/-- the place of the first, or -1 -/
theorem any_at {α : Type} {f : α → Bool} {l : List α} {i : Nat} {x : α} (hx : l[i]? = some x) (hf : f x = true) : l.any f = true := List.any_eq_true.2 ⟨x, List.mem_of_getElem? hx, hf⟩
theorem any_none {α : Type} {f : α → Bool} {l : List α} (h : ∀ (j : Nat) (y : α), l[j]? = some y → f y = false) : l.any f = false := by
  rw [List.any_eq_false]
  intro x hx
  obtain ⟨j, hj⟩ := List.getElem?_of_mem hx
  rw [h j x hj]; decide

set_option maxRecDepth 100000 in
set_option maxHeartbeats 4000000 in
theorem ixProc_any (w : World) (B pb : Nat) (ps : List Pr) (h : Procs w B pb ps.length ps) (hn : ps.length ≤ 6) :
    Calls Try.prog 69 #[.slice (some ⟨pb, 0, none⟩) ps.length ps.length, .func (.func 43) #[] #[]] w fun e w' => (∃ k : Int, e = .returned (.int .i64 k) ∧ decide (0 ≤ k) = ps.any waitB) ∧ Below w.heap.size w w' := by
  go_enter Try.func69, Try.ntmps69
  go_wp2
  go_loopw [8] (fun si wr => ∃ i : Nat, si = .int .i64 i ∧ i ≤ ps.length ∧ (∀ (j : Nat) (y : Pr), j < i → ps[j]? = some y → waitB y = false) ∧ Below w.heap.size w wr) (fun si _ => ps.length - (intOf si).toNat)
  case atStart => exact ⟨0, rfl, Nat.zero_le _, fun j y hj => by omega, Below.refl _ _⟩
  case round =>
    obtain ⟨i, rfl, hi, hb, hg⟩ := hrel
    by_cases hlt : i < ps.length
    · obtain ⟨x, hx⟩ := get_of_lt hlt
      have c0 : wr.cell? ⟨pb, i, none⟩ = some (.pointer (some ⟨x.qb, 0, none⟩)) := (hg.cell (p := ⟨pb, i, none⟩) h.arr.lt).trans (h.cell hx)
      have hlp : pb < wr.heap.size := block_lt_of_cell c0
      have hcall := waits_any wr B x ((h.each x (List.mem_of_getElem? hx)).keep (kept_of_below' hg) (fun _ _ e => e))
      have hil : (i : Int) < ps.length := by omega
      have Hx : Hid (ps[i]? = some x) := hx
      clear hx
      cases hv : waitB x with
      | false =>
        have Hv : Hid (waitB x = false) := hv
        rw [hv] at hcall
        clear hv
        go_wp2_with fail
        refine hcall.mono ?_
        rintro e w1 ⟨rfl, g1⟩
        clear hcall c0
        go_wp2
        go_roundw
        case rel =>
          refine ⟨i + 1, by go_num, hlt, fun j y hj hy => ?_, hg.trans (g1.mono hg.size)⟩
          by_cases hji : j = i
          · subst hji; rw [Hx.out] at hy; cases hy; exact Hv.out
          · exact hb j y (by omega) hy
        case measure => simp [intOf]; omega
      | true =>
        have Hv : Hid (waitB x = true) := hv
        rw [hv] at hcall
        clear hv
        go_wp2_with fail
        refine hcall.mono ?_
        rintro e w1 ⟨rfl, g1⟩
        clear hcall c0
        go_wp2
        go_ret
        exact ⟨⟨_, rfl, by rw [any_at Hx.out Hv.out]; simp⟩, hg.trans (g1.mono hg.size)⟩
    · have hie : i = ps.length := by omega
      clear hi
      go_wp2
      go_ret
      exact ⟨⟨_, rfl, by rw [any_none (fun j y hy => hb j y (by have := get_lt hy; omega) hy)]; simp⟩, hg⟩

set_option maxRecDepth 100000 in
theorem anyProc_any (w : World) (B pb : Nat) (ps : List Pr) (h : Procs w B pb ps.length ps) (hn : ps.length ≤ 6) :
    Calls Try.prog 42 #[.slice (some ⟨pb, 0, none⟩) ps.length ps.length, .func (.func 43) #[] #[]] w fun e w' => e = .returned (.bool (ps.any waitB)) ∧ Below w.heap.size w w' := by
  have hix := ixProc_any w B pb ps h hn
  go_enter Try.func42, Try.ntmps42
  go_wp2_with fail
  refine hix.mono ?_
  rintro e1 w1 ⟨⟨k, rfl, hk⟩, hb1⟩
  have Hk : Hid (decide (0 ≤ k) = ps.any waitB) := hk
  clear hix hk
  go_wp2
  go_ret
  exact ⟨ret_bool Hk.out, hb1⟩

def msgB (x : Pcl) : Bool := decide (x.kd = 0)
set_option maxRecDepth 100000 in
theorem isMsg_any (w : World) (x : Pcl) :
    Calls Try.prog 72 #[.agg #[.int .i64 x.it.t, .int .i64 x.it.f, .int .i64 x.it.s, .int .i64 x.it.l, .int .i64 x.kd, .int .i64 x.k]] w fun e w' => e = .returned (.bool (msgB x)) ∧ Below w.heap.size w w' := by
  go_enter Try.func72, Try.ntmps72
  go_wp2
  go_ret
  exact ⟨rfl, (Below.refl _ _).alloc (Nat.le_refl _) _⟩

set_option maxRecDepth 100000 in
set_option maxHeartbeats 4000000 in
theorem ixPcl_any (w : World) (B : Nat) (v : Value) (ps : List Pcl) (h : Own pclE w B v ps) (hn : ps.length ≤ 1000000) :
    Calls Try.prog 95 #[v, .func (.func 72) #[] #[]] w fun e w' => (∃ k : Int, e = .returned (.int .i64 k) ∧ decide (0 ≤ k) = ps.any msgB) ∧ Below w.heap.size w w' := by
  obtain ⟨ao, cp, hv0, hcp⟩ := h.form'
  subst hv0
  go_enter Try.func95, Try.ntmps95
  go_wp2
  go_loopw [8] (fun si wr => ∃ i : Nat, si = .int .i64 i ∧ i ≤ ps.length ∧ (∀ (j : Nat) (y : Pcl), j < i → ps[j]? = some y → msgB y = false) ∧ Below w.heap.size w wr) (fun si _ => ps.length - (intOf si).toNat)
  case atStart => exact ⟨0, rfl, Nat.zero_le _, fun j y hj => by omega, Below.refl _ _⟩
  case round =>
    obtain ⟨i, rfl, hi, hb, hg⟩ := hrel
    by_cases hlt : i < ps.length
    · obtain ⟨x, hx⟩ := get_of_lt hlt
      obtain ⟨g, cap', hg', _⟩ := Own.at_ h hx
      simp only [Value.slice.injEq] at hg'
      obtain ⟨rfl, -, -⟩ := hg'
      have hr := h.keep (kept_of_below' hg) (fun _ _ e => e)
      have c0 := hr.cell hx (k := 0) (u := .int .i64 x.it.t) rfl
      have c1 := hr.cell hx (k := 1) (u := .int .i64 x.it.f) rfl
      have c2 := hr.cell hx (k := 2) (u := .int .i64 x.it.s) rfl
      have c3 := hr.cell hx (k := 3) (u := .int .i64 x.it.l) rfl
      have c4 := hr.cell hx (k := 4) (u := .int .i64 x.kd) rfl
      have c5 := hr.cell hx (k := 5) (u := .int .i64 x.k) rfl
      simp only [show pclE.sz = 6 from rfl, Nat.add_zero] at c0 c1 c2 c3 c4 c5
      have hlp : g < wr.heap.size := block_lt_of_cell c0
      have hcall := isMsg_any wr x
      have hil : (i : Int) < ps.length := by omega
      have Hx : Hid (ps[i]? = some x) := hx
      clear hx
      cases hv : msgB x with
      | false =>
        have Hv : Hid (msgB x = false) := hv
        rw [hv] at hcall
        clear hv
        go_wp2_with fail
        refine hcall.mono ?_
        rintro e w1 ⟨rfl, g1⟩
        clear hcall c0 c1 c2 c3 c4 c5
        go_wp2
        go_roundw
        case rel =>
          refine ⟨i + 1, by go_num, hlt, fun j y hj hy => ?_, hg.trans (g1.mono hg.size)⟩
          by_cases hji : j = i
          · subst hji; rw [Hx.out] at hy; cases hy; exact Hv.out
          · exact hb j y (by omega) hy
        case measure => simp [intOf]; omega
      | true =>
        have Hv : Hid (msgB x = true) := hv
        rw [hv] at hcall
        clear hv
        go_wp2_with fail
        refine hcall.mono ?_
        rintro e w1 ⟨rfl, g1⟩
        clear hcall c0 c1 c2 c3 c4 c5
        go_wp2
        go_ret
        exact ⟨⟨_, rfl, by rw [any_at Hx.out Hv.out]; simp⟩, hg.trans (g1.mono hg.size)⟩
    · have hie : i = ps.length := by omega
      clear hi
      go_wp2
      go_ret
      exact ⟨⟨_, rfl, by rw [any_none (fun j y hy => hb j y (by have := get_lt hy; omega) hy)]; simp⟩, hg⟩

set_option maxRecDepth 100000 in
theorem anyPcl_any (w : World) (B : Nat) (v : Value) (ps : List Pcl) (h : Own pclE w B v ps) (hn : ps.length ≤ 1000000) :
    Calls Try.prog 71 #[v, .func (.func 72) #[] #[]] w fun e w' => e = .returned (.bool (ps.any msgB)) ∧ Below w.heap.size w w' := by
  have hix := ixPcl_any w B v ps h hn
  go_enter Try.func71, Try.ntmps71
  go_wp2_with fail
  refine hix.mono ?_
  rintro e1 w1 ⟨⟨k, rfl, hk⟩, hb1⟩
  have Hk : Hid (decide (0 ≤ k) = ps.any msgB) := hk
  clear hix hk
  go_wp2
  go_ret
  exact ⟨ret_bool Hk.out, hb1⟩

set_option maxRecDepth 100000 in
theorem carries_any (w : World) (B : Nat) (v : Value) (ps : List Pcl) (h : Own pclE w B v ps) (hn : ps.length ≤ 1000000) :
    Calls Try.prog 45 #[v] w fun e w' => e = .returned (.bool (ps.any msgB)) ∧ Below w.heap.size w w' := by
  have hix := anyPcl_any w B v ps h hn
  obtain ⟨ao, cp, hv0, hcp⟩ := h.form'
  subst hv0
  go_enter Try.func45, Try.ntmps45
  go_wp2_with fail
  refine hix.mono ?_
  rintro e1 w1 ⟨rfl, hb1⟩
  clear hix
  go_wp2
  go_ret
  exact ⟨rfl, hb1⟩

def lkB (l : List Pcl) : Bool := l.any msgB
set_option maxRecDepth 100000 in
set_option maxHeartbeats 4000000 in
theorem ixLks_any (w : World) (B gb : Nat) (gv : List Value) (ps : List (List Pcl)) (hG : Blk w gb gv.toArray 131) (hl : gv.length = ps.length) (h : ∀ (k : Nat) (v : Value) (l : List Pcl), gv[k]? = some v → ps[k]? = some l → Own pclE w B v l ∧ l.length ≤ 1000000) (hn : ps.length ≤ 12) :
    Calls Try.prog 70 #[.slice (some ⟨gb, 0, none⟩) ps.length ps.length, .func (.func 45) #[] #[]] w fun e w' => (∃ k : Int, e = .returned (.int .i64 k) ∧ decide (0 ≤ k) = ps.any lkB) ∧ Below w.heap.size w w' := by
  go_enter Try.func70, Try.ntmps70
  go_wp2
  go_loopw [8] (fun si wr => ∃ i : Nat, si = .int .i64 i ∧ i ≤ ps.length ∧ (∀ (j : Nat) (y : List Pcl), j < i → ps[j]? = some y → lkB y = false) ∧ Below w.heap.size w wr) (fun si _ => ps.length - (intOf si).toNat)
  case atStart => exact ⟨0, rfl, Nat.zero_le _, fun j y hj => by omega, Below.refl _ _⟩
  case round =>
    obtain ⟨i, rfl, hi, hb, hg⟩ := hrel
    by_cases hlt : i < ps.length
    · obtain ⟨x, hx⟩ := get_of_lt hlt
      obtain ⟨v, hv0⟩ := get_of_lt (d := gv) (k := i) (by rw [hl]; exact hlt)
      obtain ⟨hO, hxl⟩ := h i v x hv0 hx
      obtain ⟨ao, cp, hvf, hcp⟩ := hO.form'
      subst hvf
      have c0 : wr.cell? ⟨gb, i, none⟩ = some (.slice ao x.length cp) := (hg.cell (p := ⟨gb, i, none⟩) hG.lt).trans (by rw [hG.cell, List.getElem?_toArray, hv0])
      have hlp : gb < wr.heap.size := block_lt_of_cell c0
      have hcall : Calls Try.prog 45 #[.slice ao x.length cp] wr fun e w' => e = .returned (.bool (lkB x)) ∧ Below wr.heap.size wr w' := carries_any wr B _ x (hO.keep (kept_of_below' hg) (fun _ _ e => e)) hxl
      clear hv0
      have hil : (i : Int) < ps.length := by omega
      have Hx : Hid (ps[i]? = some x) := hx
      clear hx
      cases hv : lkB x with
      | false =>
        have Hv : Hid (lkB x = false) := hv
        rw [hv] at hcall
        clear hv
        go_wp2_with fail
        refine hcall.mono ?_
        rintro e w1 ⟨rfl, g1⟩
        clear hcall c0
        go_wp2
        go_roundw
        case rel =>
          refine ⟨i + 1, by go_num, hlt, fun j y hj hy => ?_, hg.trans (g1.mono hg.size)⟩
          by_cases hji : j = i
          · subst hji; rw [Hx.out] at hy; cases hy; exact Hv.out
          · exact hb j y (by omega) hy
        case measure => simp [intOf]; omega
      | true =>
        have Hv : Hid (lkB x = true) := hv
        rw [hv] at hcall
        clear hv
        go_wp2_with fail
        refine hcall.mono ?_
        rintro e w1 ⟨rfl, g1⟩
        clear hcall c0
        go_wp2
        go_ret
        exact ⟨⟨_, rfl, by rw [any_at Hx.out Hv.out]; simp⟩, hg.trans (g1.mono hg.size)⟩
    · have hie : i = ps.length := by omega
      clear hi
      go_wp2
      go_ret
      exact ⟨⟨_, rfl, by rw [any_none (fun j y hy => hb j y (by have := get_lt hy; omega) hy)]; simp⟩, hg⟩

set_option maxRecDepth 100000 in
theorem anyLks_any (w : World) (B gb : Nat) (gv : List Value) (ps : List (List Pcl)) (hG : Blk w gb gv.toArray 131) (hl : gv.length = ps.length) (h : ∀ (k : Nat) (v : Value) (l : List Pcl), gv[k]? = some v → ps[k]? = some l → Own pclE w B v l ∧ l.length ≤ 1000000) (hn : ps.length ≤ 12) :
    Calls Try.prog 44 #[.slice (some ⟨gb, 0, none⟩) ps.length ps.length, .func (.func 45) #[] #[]] w fun e w' => e = .returned (.bool (ps.any lkB)) ∧ Below w.heap.size w w' := by
  have hix := ixLks_any w B gb gv ps hG hl h hn
  go_enter Try.func44, Try.ntmps44
  go_wp2_with fail
  refine hix.mono ?_
  rintro e1 w1 ⟨⟨k, rfl, hk⟩, hb1⟩
  have Hk : Hid (decide (0 ≤ k) = ps.any lkB) := hk
  clear hix hk
  go_wp2
  go_ret
  exact ⟨ret_bool Hk.out, hb1⟩

set_option maxRecDepth 100000 in
set_option maxHeartbeats 4000000 in
theorem over_any (w : World) (nb : Nat) (m : Mdl) (en : Int) (s : NS) (V : NV) (h : NetAt w nb m en s V) (hm : Right m) (hlk : ∀ l ∈ s.ls, l.length ≤ 1000000) :
    Calls Try.prog 23 #[.pointer (some ⟨nb, 0, none⟩)] w fun e w' => e = .returned (.bool (!(V.ps.any waitB) && !(s.ls.any lkB))) ∧ Below w.heap.size w w' := by
  have hp2 := hm.lim.p2
  have hnl := hm.lim.nl
  have hnp6 : np m ≤ 6 := by unfold np; omega
  have n1 : w.cell? ⟨nb, 6, none⟩ = some (.slice (some ⟨V.pb, 0, none⟩) (np m) (np m)) := h.blk.cell 6
  have n2 : w.cell? ⟨nb, 7, none⟩ = some (.slice (some ⟨V.gb, 0, none⟩) m.links.length m.links.length) := h.blk.cell 7
  have hl := h.blk.lt
  have hP : Procs w V.B V.pb V.ps.length V.ps := by rw [h.plen]; exact h.procs
  have hc1 := anyProc_any w V.B V.pb V.ps hP (by rw [h.plen]; exact hnp6)
  rw [h.plen] at hc1
  have hc2 : ∀ W, Below w.heap.size w W → Calls Try.prog 44 #[.slice (some ⟨V.gb, 0, none⟩) m.links.length m.links.length, .func (.func 45) #[] #[]] W fun e w' => e = .returned (.bool (s.ls.any lkB)) ∧ Below W.heap.size W w' := fun W hW => by
    have hN := h.grow (kept_of_below' hW)
    have := anyLks_any W V.B V.gb V.gv s.ls hN.garr (by rw [h.glen, h.llen]) (fun k v l hv hl' => ⟨by have h1 := hN.each k v hv; rw [List.getD_eq_getElem?_getD, hl'] at h1; exact h1, hlk l (List.mem_of_getElem? hl')⟩) (by rw [h.llen]; exact hnl)
    rw [h.llen] at this
    exact this
  cases hv : V.ps.any waitB with
  | true =>
    rw [hv] at hc1
    clear hv
    go_enter Try.func23, Try.ntmps23
    go_wp2_with fail
    refine hc1.mono ?_
    rintro e1 w1 ⟨rfl, hb1⟩
    clear hc1 n1 n2
    go_wp2
    go_ret
    exact ⟨rfl, hb1⟩
  | false =>
    rw [hv] at hc1
    clear hv
    go_enter Try.func23, Try.ntmps23
    go_wp2_with fail
    refine hc1.mono ?_
    rintro e1 w1 ⟨rfl, hb1⟩
    have n2' : w1.cell? ⟨nb, 7, none⟩ = some (.slice (some ⟨V.gb, 0, none⟩) m.links.length m.links.length) := (hb1.cell (p := ⟨nb, 7, none⟩) hl).trans n2
    have hl1 : nb < w1.heap.size := block_lt_of_cell n2'
    have hc3 := hc2 w1 hb1
    clear hc1 hc2 n1 n2
    go_wp2_with fail
    refine hc3.mono ?_
    rintro e2 w2 ⟨rfl, hb2⟩
    clear hc3 n2'
    go_wp2
    go_ret
    exact ⟨by simp, hb1.trans (hb2.mono hb1.size)⟩

end Go.Proofs.Ytkobkilfbbalaaa

namespace Go.Proofs.Ytkobkilfbbalaaa
open Go.RowKit Go.Sort Go.Maps

theorem waitB_iff {w : World} {B i : Nat} {en : Int} {p : Pr} {a : NP} (h : PAt w B p) (hr : PRel en i p a) : waitB p = false ↔ ∀ x ∈ a.q, en ≤ x.t := by
  unfold waitB
  cases ht : p.top with
  | none =>
    refine ⟨fun _ x hx => ?_, fun _ => rfl⟩
    have h1 := hr.its.symm.subset hx
    have h2 := h.top_none ht
    rw [Pr.its, h2] at h1
    simp [allEs] at h1
  | some t =>
    obtain ⟨h1, h2⟩ := h.top_least ht
    have h3 := hr.en
    simp only [decide_eq_false_iff_not]
    constructor
    · intro h4 x hx
      have h5 := h2 x (hr.its.symm.subset hx)
      unfold It.lt at h5
      omega
    · intro h4
      have h5 := h4 t (hr.its.subset h1)
      omega

theorem NetAt.idle {w : World} {nb : Nat} {m : Mdl} {en : Int} {s : NS} {V : NV} (h : NetAt w nb m en s V) : ((!(V.ps.any waitB) && !(s.ls.any lkB)) = true) ↔ Idle en s := by
  rw [Bool.and_eq_true, Bool.not_eq_true', Bool.not_eq_true', List.any_eq_false, List.any_eq_false]
  constructor
  · rintro ⟨h1, h2⟩
    refine ⟨fun i a ha => ?_, fun k y hy => ?_⟩
    · obtain ⟨p, hp⟩ := get_of_lt (d := V.ps) (k := i) (by rw [h.plen, ← h.slen]; exact get_lt ha)
      have hm := List.mem_of_getElem? hp
      have := h1 p hm
      exact (waitB_iff (h.procs.each p hm) (h.rel i p a hp ha)).1 (by simpa using this)
    · rw [List.getD_eq_getElem?_getD] at hy
      cases hk : s.ls[k]? with
      | none => rw [hk] at hy; simp at hy
      | some l =>
        rw [hk] at hy
        have h3 := h2 l (List.mem_of_getElem? hk)
        have h4 : l.any msgB = false := by simpa [lkB] using h3
        have h5 := (List.any_eq_false.1 h4) y hy
        simpa [msgB] using h5
  · intro hI
    refine ⟨fun p hp => ?_, fun l hl => ?_⟩
    · obtain ⟨i, hi⟩ := List.getElem?_of_mem hp
      obtain ⟨a, ha⟩ := get_of_lt (d := s.ps) (k := i) (by rw [h.slen, ← h.plen]; exact get_lt hi)
      have := (waitB_iff (h.procs.each p hp) (h.rel i p a hi ha)).2 (hI.q i a ha)
      simp [this]
    · obtain ⟨k, hk⟩ := List.getElem?_of_mem hl
      have h1 := hI.l k
      rw [List.getD_eq_getElem?_getD, hk] at h1
      have : l.any msgB = false := List.any_eq_false.2 (fun y hy => by simpa [msgB] using h1 y hy)
      simp [lkB, this]

theorem Good.done_iff {m : Mdl} {en : Int} {k : Nat} {N : Nat → Nat} {s : NS} (T : Tells m en k) (h : Good m en (FK m en k) N s) : Idle en s ↔ sumN ((List.range (np m)).map N) = (atK m en k).all := by
  rw [← T.sum]
  have E := T.env
  constructor
  · intro hI
    have := h.1.idle_all E.hm E.hF E.pos hI
    congr 1
    apply List.map_congr_left
    intro p hp
    exact this p (List.mem_range.1 hp)
  · intro he
    exact h.1.all_idle E.hm E.hF ((sum_all (fun p hp => h.1.nle p hp)).2 he)

set_option maxRecDepth 100000 in
set_option maxHeartbeats 8000000 in
theorem overL_any (w : World) (nb lo hi cb db kb : Nat) (lv rv sv : Value) (m : Mdl) (en : Int) (k : Nat) (D C : List Value) (N : Nat → Nat) (s : NS) (V : NV) (T : Tells m en k) (h : NetAt w nb m en s V) (hG : Good m en (FK m en k) N s) (hC : CRd w lo hi cb db kb lv rv sv m D C (atK m en k)) :
    Calls Try.prog 22 #[.pointer (some ⟨nb, 0, none⟩), .pointer (some ⟨cb, 0, none⟩)] w fun e w' => e = .returned (.bool true) ∧ Below w.heap.size w w' := by
  have hls := lists_any w nb lo hi cb db kb lv rv sv m en k D C N s V T h hG hC
  have hp1 := T.hm.lim.p1
  have hp2 := T.hm.lim.p2
  have hnp1 : 1 ≤ np m := by unfold np; omega
  have hnp6 : np m ≤ 6 := by unfold np; omega
  have E := T.env
  have hfl : ∀ p, p < np m → N p ≤ 300 := fun p hp => Nat.le_trans (hG.1.nle p hp) (E.len p hp)
  go_enter Try.func22, Try.ntmps22
  go_wp2_with fail
  refine hls.mono ?_
  rintro e1 w1 ⟨hb1, v1, rfl, hO⟩
  clear hls
  have hx0 : ∀ p, p < np m → ((List.range (np m)).map (fun p => (N p : Int)))[p]? = some (N p : Int) := fun p hp => by rw [List.getElem?_map, List.getElem?_range hp]; rfl
  have hlen : ((List.range (np m)).map (fun p => (N p : Int))).length = np m := by simp
  obtain ⟨g, cg, hdv, _⟩ := Own.at_ hO (hx0 0 (by omega))
  rw [hlen] at hdv
  have dc : ∀ p, p < np m → w1.cell? ⟨g, p, none⟩ = some (.int .i64 (N p : Int)) := fun p hp => by
    obtain ⟨g', cg', hdv', _⟩ := Own.at_ hO (hx0 p hp)
    rw [hlen, hdv] at hdv'
    simp only [Value.slice.injEq] at hdv'
    have e1 := hdv'.1
    injection e1 with e1
    injection e1 with e1
    subst e1
    subst hdv
    have := hO.cell (hx0 p hp) (k := 0) (u := .int .i64 (N p : Int)) rfl
    simpa [inE] using this
  have hlg : g < w1.heap.size := block_lt_of_cell (dc 0 (by omega))
  subst hdv
  clear hx0 hlen hO
  go_wp2
  go_loopw [7, 8] (fun s7 s8 wr => ∃ p : Nat, s7 = .int .i64 (sumN ((List.range p).map N) : Int) ∧ s8 = .int .i64 p ∧ p ≤ np m ∧ wr = w1) (fun _ s8 _ => np m - (intOf s8).toNat)
  case atStart => exact ⟨0, rfl, rfl, Nat.zero_le _, rfl⟩
  case round =>
    obtain ⟨p, rfl, rfl, hp, hwr⟩ := hrel
    subst hwr
    have hsb : sumN ((List.range p).map N) ≤ 300 * p := by
      have := sumN_le (c := 300) (l := (List.range p).map N) (fun x hx => by
        obtain ⟨q, hq, rfl⟩ := List.mem_map.1 hx
        exact hfl q (by have := List.mem_range.1 hq; omega))
      simpa using this
    by_cases hlt : p < np m
    · have c0 := dc p hlt
      have hpl : (p : Int) < (np m : Int) := by omega
      have hN := hfl p hlt
      have HS : Hid (sumN ((List.range (p + 1)).map N) = sumN ((List.range p).map N) + N p) := by show _ = _; rw [List.range_succ, List.map_append, sumN_append]; simp [sumN_cons]; rfl
      obtain ⟨S, hS⟩ : ∃ S, S = sumN ((List.range p).map N) := ⟨_, rfl⟩
      rw [← hS] at HS hsb ⊢
      clear hS
      go_wp2
      go_roundw
      case rel => exact ⟨p + 1, by rw [HS.out]; go_num, by go_num, hlt, trivial⟩
      case measure => simp [intOf]; omega
    · have hpe : p = np m := by omega
      subst hpe
      have hD := hG.done_iff T
      obtain ⟨cc, hcb, hc0, hc3, hc9, hc10, hc11⟩ := hC.blk
      have c11 : w.cell? ⟨cb, 11, none⟩ = some (.int .i64 ((atK m en k).all : Int)) := by rw [hcb.cell, hc11]
      have hlc := hcb.lt
      have hov := over_any wr nb m en s V (h.grow (kept_of_below' hb1)) T.hm (fun l hl => by
        obtain ⟨j, hj⟩ := List.getElem?_of_mem hl
        obtain ⟨a, ha⟩ := get_of_lt (d := s.ps) (k := 0) (by rw [hG.1.lp]; omega)
        have := (sane_of E hG.1 hG.2 ha).len j
        rw [List.getD_eq_getElem?_getD, hj] at this
        exact Nat.le_trans this (by decide))
      have hid := h.idle
      obtain ⟨A, hA⟩ : ∃ A, A = (atK m en k).all := ⟨_, rfl⟩
      obtain ⟨S, hS⟩ : ∃ S, S = sumN ((List.range (np m)).map N) := ⟨_, rfl⟩
      obtain ⟨O, hOv⟩ : ∃ O, O = (!(V.ps.any waitB) && !(s.ls.any lkB)) := ⟨_, rfl⟩
      rw [← hA] at c11 hD
      rw [← hS] at hD ⊢
      rw [← hOv] at hid hov
      have HO : Hid (O = decide (S = A)) := by
        show _ = _
        rw [Bool.eq_iff_iff, hid, hD, decide_eq_true_eq]
      clear hid hD hA hS hOv hc0 hc3 hc9 hc10 hc11 dc hsb
      go_wp2_with fail
      refine hov.mono ?_
      rintro e2 w2 ⟨rfl, hb2⟩
      have hbw := hb1.trans (hb2.mono hb1.size)
      have d11 : w2.cell? ⟨cb, 11, none⟩ = some (.int .i64 (A : Int)) := (hbw.cell (p := ⟨cb, 11, none⟩) hlc).trans c11
      have hlc2 : cb < w2.heap.size := block_lt_of_cell d11
      clear hov c11
      go_wp2
      go_ret
      refine ⟨ret_bool ?_, hbw⟩
      rw [HO.out]
      by_cases hSA : S = A
      · subst hSA; simp
      · have hn : ¬ (S : Int) = (A : Int) := by omega
        simp [hSA, hn]

end Go.Proofs.Ytkobkilfbbalaaa

namespace Go.Proofs.Ytkobkilfbbalaaa
open Go.RowKit Go.Sort Go.Maps

theorem Law.lks {w wr : World} {nb lo hi cb db kb : Nat} {lv rv sv : Value} {m : Mdl} {en : Int} {k : Nat} {D C : List Value} {N : Nat → Nat} {s : NS} {V : NV} (T : Tells m en k) (L : Law w wr nb lo hi cb db kb lv rv sv m en k D C N s V) : ∀ l ∈ s.ls, l.length ≤ 1000000 := fun l hl => by
  obtain ⟨j, hj⟩ := List.getElem?_of_mem hl
  obtain ⟨a, ha⟩ := get_of_lt (d := s.ps) (k := 0) (by rw [L.good.1.lp]; have := T.hm.lim.p1; unfold np; omega)
  have := (sane_of T.env L.good.1 L.good.2 ha).len j
  rw [List.getD_eq_getElem?_getD, hj] at this
  exact Nat.le_trans this (by decide)

set_option maxRecDepth 100000 in
set_option maxHeartbeats 16000000 in
theorem moves_any (w : World) (m : Mdl) (lv rv sv tv : Value) (R : List RuleV) (steps : List Int) (en : Int) (h : ModelAt w w.heap.size lv rv sv m R) (hT : RowsAt 1 intC w w.heap.size tv steps)
    (b1 : m.links.length * 24 ≤ 140737488351232) (b2 : m.rules.length * 56 ≤ 140737488351232) (b3 : m.starts.length * 24 ≤ 140737488351232) (b4 : ∀ r ∈ m.rules, r.es.length * 24 ≤ 140737488351232) (b5 : steps.length * 8 ≤ 140737488351232) :
    Calls Try.prog 8 #[.agg #[.int .i64 m.procs, .int .i64 m.states, .int .i64 m.loads, lv, rv, sv], .int .i64 en, tv] w fun e w' => e = .returned (.bool true) ∧ Below w.heap.size w w' := by
  obtain ⟨aot, capt, htv, hcapt⟩ := RowsAt.form hT
  subst htv
  obtain ⟨ao2, cap2, hsv, hcap2⟩ := RowsAt.form h.starts
  subst hsv
  obtain ⟨ao1, cap1, hlv, hcap1⟩ := RowsAt.form h.links
  subst hlv
  obtain ⟨ao3, cap3, hrv, hcap3⟩ := RowsAt.form h.rules.1
  subst hrv
  obtain ⟨W0, hW0⟩ : ∃ W0, W0 = w.alloc (.cells #[.int .i64 m.procs, .int .i64 m.states, .int .i64 m.loads, .slice ao1 m.links.length cap1, .slice ao3 R.length cap3, .slice ao2 m.starts.length cap2] 26) := ⟨_, rfl⟩
  have HW0 : Hid (W0 = w.alloc (.cells #[.int .i64 m.procs, .int .i64 m.states, .int .i64 m.loads, .slice ao1 m.links.length cap1, .slice ao3 R.length cap3, .slice ao2 m.starts.length cap2] 26)) := hW0
  have hB0 : Below w.heap.size w W0 := by rw [hW0]; exact (Below.refl _ _).alloc (Nat.le_refl _) _
  have hmb : Blk W0 w.heap.size #[.int .i64 m.procs, .int .i64 m.states, .int .i64 m.loads, .slice ao1 m.links.length cap1, .slice ao3 R.length cap3, .slice ao2 m.starts.length cap2] 26 := by rw [hW0]; exact heap_alloc_new w _
  have hz0 : w.heap.size < W0.heap.size := hmb.lt
  have hop := opened_any W0 m _ _ _ R w.heap.size en (h.keep hB0) hB0.size b1 b2 b3 b4
  clear hW0
  have m0 : W0.cell? ⟨w.heap.size, 0, none⟩ = some (.int .i64 m.procs) := hmb.cell 0
  have m1 : W0.cell? ⟨w.heap.size, 1, none⟩ = some (.int .i64 m.states) := hmb.cell 1
  have m2 : W0.cell? ⟨w.heap.size, 2, none⟩ = some (.int .i64 m.loads) := hmb.cell 2
  have m3 : W0.cell? ⟨w.heap.size, 3, none⟩ = some (.slice ao1 m.links.length cap1) := hmb.cell 3
  have m4 : W0.cell? ⟨w.heap.size, 4, none⟩ = some (.slice ao3 R.length cap3) := hmb.cell 4
  have m5 : W0.cell? ⟨w.heap.size, 5, none⟩ = some (.slice ao2 m.starts.length cap2) := hmb.cell 5
  go_enter Try.func8, Try.ntmps8
  go_upto_region 1 with fail
  rw [← HW0.out]
  go_wp2_with fail
  refine hop.mono ?_
  rintro e1 w1 ⟨hb1, ⟨ha, pv, rfl⟩ | ⟨ha, nb, V, k, lo, cb, db, kb, D, C, rfl, hN, hC, hk, hnx, hsep, hlo1, hlo2⟩⟩
  · clear hop m0 m1 m2 m3 m4 m5
    have hbw : Below w.heap.size w w1 := hB0.trans (hb1.mono hB0.size)
    go_wp2
    go_ret
    exact ⟨rfl, hbw⟩
  · clear hop m0 m1 m2 m3 m4 m5
    have hbw : Below w.heap.size w w1 := hB0.trans (hb1.mono hB0.size)
    obtain ⟨hm, hen0, hen⟩ := right_of_valid (answer_valid ha)
    have T : Tells m en k := ⟨hm, hen0, hen, hnx, hk⟩
    have L1 : Law w w1 nb lo w1.heap.size cb db kb (.slice ao1 m.links.length cap1) (.slice ao3 R.length cap3) (.slice ao2 m.starts.length cap2) m en k D C (fun _ => 0) (openN m) V := ⟨hN, good_open T.env, hC, fun i hi => .inl (hsep i hi), by omega, hbw⟩
    have hmb1 := hmb.keep (kept_of_below' hb1) (fun e => e)
    obtain ⟨hi, hhi⟩ : ∃ hi, hi = w1.heap.size := ⟨_, rfl⟩
    rw [← hhi] at L1
    have hp1 := hm.lim.p1
    have hp2 := hm.lim.p2
    have hnp1 : 1 ≤ np m := by unfold np; omega
    have hnp6 : np m ≤ 6 := by unfold np; omega
    clear ha hN hC hsep hk hnx hhi hmb
    go_wp2
    go_loopw [10] (fun s10 wq => ∃ (i : Nat) (N : Nat → Nat) (s : NS) (V : NV), s10 = .int .i64 i ∧ i ≤ steps.length ∧ Law w wq nb lo hi cb db kb (.slice ao1 m.links.length cap1) (.slice ao3 R.length cap3) (.slice ao2 m.starts.length cap2) m en k D C N s V ∧ Blk wq w.heap.size #[.int .i64 m.procs, .int .i64 m.states, .int .i64 m.loads, .slice ao1 m.links.length cap1, .slice ao3 R.length cap3, .slice ao2 m.starts.length cap2] 26) (fun s10 _ => steps.length - (intOf s10).toNat)
    case atStart => exact ⟨0, _, _, V, rfl, Nat.zero_le _, L1, hmb1⟩
    case round =>
      clear L1 hmb1
      obtain ⟨i, N, s, V, rfl, hi', L, hbx⟩ := hrel
      by_cases hlt2 : i < steps.length
      · obtain ⟨x, hx⟩ := get_of_lt hlt2
        have hov := overL_any wr nb lo hi cb db kb _ _ _ m en k D C N s V T L.net L.good L.crd
        have hil : (i : Int) < steps.length := by omega
        go_wp2_with fail
        refine hov.mono ?_
        rintro e2 w2 ⟨rfl, hb2⟩
        clear hov
        have L2 := L.grow hb2
        have hbx2 := hbx.keep (kept_of_below' hb2) (fun e => e)
        obtain ⟨tb, tof, hao, htbB, htc⟩ := RowsAt.at_ (hT.keep L2.bel) hx
        subst hao
        have t0 := htc 0 (.int .i64 x) rfl
        simp only [Nat.add_zero, Nat.mul_one] at t0
        have hltb : tb < w2.heap.size := block_lt_of_cell t0
        have hstep := step_any w2 nb m en (FK m en k) (CK m en k) N s V x T.env L2.net L2.good
        clear L hbx htc hx
        go_wp2_with fail
        refine hstep.mono ?_
        rintro e3 w3 ⟨b, s3, V3, rfl, hg3, hc3⟩
        clear hstep t0
        obtain ⟨N3, L3⟩ := L2.next T hg3 hc3
        have hbx3 := L2.box hg3 hbx2
        clear L2 hbx2 hg3 hc3
        go_wp2
        go_roundw
        case rel => exact ⟨i + 1, N3, s3, V3, by go_num, hlt2, L3, hbx3⟩
        case measure => simp [intOf]; omega
      · have hov := over_any wr nb m en s V L.net hm (L.lks T)
        have hid := L.net.idle
        obtain ⟨O, hOv⟩ : ∃ O, O = (!(V.ps.any waitB) && !(s.ls.any lkB)) := ⟨_, rfl⟩
        rw [← hOv] at hid hov
        clear hOv hi'
        go_wp2_with fail
        refine hov.mono ?_
        rintro e2 w2 ⟨rfl, hb2⟩
        clear hov
        have L2 := L.grow hb2
        have hbx2 := hbx.keep (kept_of_below' hb2) (fun e => e)
        have hcal := L.good.1.calm_idle hm hen0 hen T.env.hF
        clear L hbx hb2
        have HO : Hid (O = true ↔ Idle en s) := hid
        clear hid
        go_wp2
        go_loopw [13, 14] (fun s13 s14 wq => ∃ (p : Nat) (sm : Bool) (N' : Nat → Nat) (s' : NS) (V' : NV), s13 = .bool sm ∧ s14 = .int .i64 p ∧ p ≤ np m ∧ (sm = true ∨ (O = false ∧ s' = s ∧ ∀ q, q < p → goOnB m en s q = false)) ∧ Law w wq nb lo hi cb db kb (.slice ao1 m.links.length cap1) (.slice ao3 R.length cap3) (.slice ao2 m.starts.length cap2) m en k D C N' s' V' ∧ Blk wq w.heap.size #[.int .i64 m.procs, .int .i64 m.states, .int .i64 m.loads, .slice ao1 m.links.length cap1, .slice ao3 R.length cap3, .slice ao2 m.starts.length cap2] 26) (fun _ s14 _ => np m - (intOf s14).toNat)
        case atStart =>
          refine ⟨0, O, N, s, V, rfl, rfl, Nat.zero_le _, ?_, L2, hbx2⟩
          cases O with
          | true => exact .inl rfl
          | false => exact .inr ⟨rfl, rfl, fun q hq => by omega⟩
        case round =>
          clear L2 hbx2
          obtain ⟨p, sm, N', s', V', rfl, rfl, hp, hsm, L, hbx⟩ := hrel
          have p0 : wr.cell? ⟨w.heap.size, 0, none⟩ = some (.int .i64 m.procs) := hbx.cell 0
          have hlb := hbx.lt
          by_cases hlt3 : p < np m
          · have hpl : (p : Int) < m.procs := by unfold np at hlt3; omega
            have hstep := step_any wr nb m en (FK m en k) (CK m en k) N' s' V' (p : Int) T.env L.net L.good
            go_wp2_with fail
            refine hstep.mono ?_
            rintro e3 w3 ⟨b, s3, V3, rfl, hg3, hc3⟩
            clear hstep p0
            obtain ⟨N3, L3⟩ := L.next T hg3 hc3
            have hbx3 := L.box hg3 hbx
            have hnew : (sm || b) = true ∨ (O = false ∧ s3 = s ∧ ∀ q, q < p + 1 → goOnB m en s q = false) := by
              rcases hsm with h1 | ⟨h1, h2, h3⟩
              · left; rw [h1]; rfl
              · cases b with
                | true => left; simp
                | false =>
                  right
                  subst h2
                  rcases hc3 with ⟨h4, _, _⟩ | ⟨_, _, h4⟩
                  · rw [isP_iff.2 ⟨(by omega : (0 : Int) ≤ (p : Int)), hpl⟩] at h4; cases h4
                  · obtain ⟨h5, h6⟩ := h4.no
                    rw [Int.toNat_natCast] at h6
                    refine ⟨h1, h5, fun q hq => ?_⟩
                    by_cases hqp : q = p
                    · subst hqp; exact h6
                    · exact h3 q (by omega)
            clear L hbx hg3 hc3 hsm
            cases sm with
            | true =>
              go_wp2
              go_roundw
              case rel => exact ⟨p + 1, true, N3, s3, V3, rfl, by go_num, hlt3, .inl rfl, L3, hbx3⟩
              case measure => simp [intOf]; omega
            | false =>
              go_wp2
              go_roundw
              case rel => exact ⟨p + 1, b, N3, s3, V3, rfl, by go_num, hlt3, by simpa using hnew, L3, hbx3⟩
              case measure => simp [intOf]; omega
          · have hpe : ¬ (p : Int) < m.procs := by unfold np at hlt3; omega
            have hsm1 : sm = true := by
              rcases hsm with h1 | ⟨h1, h2, h3⟩
              · exact h1
              · have h4 := HO.out.2 (hcal (fun q hq => h3 q (by omega)))
                rw [h1] at h4; cases h4
            subst hsm1
            have hov := overL_any wr nb lo hi cb db kb _ _ _ m en k D C N' s' V' T L.net L.good L.crd
            clear hsm
            go_wp2_with fail
            refine hov.mono ?_
            rintro e4 w4 ⟨rfl, hb4⟩
            have hbf := (L.grow hb4).bel
            clear hov p0 L hbx
            go_wp2
            go_ret
            exact ⟨rfl, hbf⟩

end Go.Proofs.Ytkobkilfbbalaaa

