/-
  The walks of rise: at entries, at days.
-/
import Derived.Test.YtbpaigpjffdcbaaLeaf
import Derived.Test.YtbpaigpjffdcbaaMem
import Derived.Deep.LoopGhost
import Derived.Lib.QuietBelow
namespace Go.Proofs.Ytbpaigpjffdcbaa
open Go.RowKit Go.Sort

theorem method_ent (a b c d r : Int) (w : World) : (method 299 160 (.agg #[.int .i64 a, .int .i64 b, .int .i64 c, .int .i64 d, .int .i64 r]) "horizon/horizon.before").run Try.prog w = .ok (110, .agg #[.int .i64 a, .int .i64 b, .int .i64 c, .int .i64 d, .int .i64 r]) w := by kernel_rfl

/-- entry.before, met in a world to which only new blocks have come -/
theorem before_grown (x y : Ent) (w : World) (v : Bool) (hv : x.ltB y = v) (p : Regrown) :
    Calls Try.prog 110 #[.agg #[.int .i64 x.it.t, .int .i64 x.it.f, .int .i64 x.it.s, .int .i64 x.it.l, .int .i64 x.r], .agg #[.int .i64 y.it.t, .int .i64 y.it.f, .int .i64 y.it.s, .int .i64 y.it.l, .int .i64 y.r]] (grow (redrawn w p.d) p.os) fun e w'' => e = .returned (.bool v) ∧ ∃ p : Regrown, w'' = grow (redrawn w p.d) p.os := by
  subst hv
  exact Calls.regrown_of (before_any x.it.t x.it.f x.it.s x.it.l x.r y.it.t y.it.f y.it.s y.it.l y.r _)

theorem below_of_regrown {w w' : World} (h : ∃ p : Regrown, w' = grow (redrawn w p.d) p.os) : Below w.heap.size w w' := by
  obtain ⟨⟨d, os⟩, h⟩ := h
  rw [h]; exact below_regrown w d os

set_option maxRecDepth 100000 in
set_option maxHeartbeats 4000000 in
theorem riseE_any (b n cap T i0 : Nat) (d : List Ent) (w : World) (hA : EArr w b T cap d) (hd : d.length = n) (hi : i0 < n) (hn : n ≤ 2932031007317) (hI : RiseInv Ent.ltB d i0) :
    Calls Try.prog 83 #[.slice (some ⟨b, 0, none⟩) n cap, .int .i64 i0] w fun e w' => e = .returned (.tuple #[]) ∧ ∃ d', EArr w' b T cap d' ∧ d'.Perm d ∧ HeapL Ent.ltB d' ∧ KeptF (· = b) w w' := by
  have hm := method_ent
  go_enter Try.func83, Try.ntmps83
  go_wp2
  go_loopw [1] (fun si wr => ∃ (i : Nat) (dk : List Ent), si = .int .i64 i ∧ i < n ∧ Hid (dk.length = n) ∧ EArr wr b T cap dk ∧ dk.Perm d ∧ RiseInv Ent.ltB dk i ∧ KeptF (· = b) w wr) (fun si _ => (intOf si).toNat)
  case atStart => exact ⟨i0, d, rfl, hi, hd, hA, List.Perm.refl _, hI, KeptF.refl _ _⟩
  case round =>
    obtain ⟨i, dk, rfl, hin, HL, hE, hP, hR, hK⟩ := hrel
    clear hA hI hd hi
    by_cases hz : i = 0
    · subst hz
      go_wp2
      go_end0
      exact ⟨rfl, dk, hE, hP, hR.done0, hK⟩
    · have hi0 : 0 < i := Nat.pos_of_ne_zero hz
      obtain ⟨j, hj⟩ : ∃ j, j = (i - 1) / 2 := ⟨_, rfl⟩
      have hjN : ((i : Int) - 1) / 2 = j := by omega
      have hji : j < i := by omega
      have hjn : j < n := by omega
      have Hj : Hid (j = (i - 1) / 2) := hj
      clear hj
      obtain ⟨x, hx⟩ := get_of_lt (d := dk) (k := i) (by have := HL.out; omega)
      obtain ⟨y, hy⟩ := get_of_lt (d := dk) (k := j) (by have := HL.out; omega)
      obtain ⟨c0, c1, c2, c3, c4⟩ := hE.cells hx
      obtain ⟨d0, d1, d2, d3, d4⟩ := hE.cells hy
      have Hx : Hid (dk[i]? = some x) := hx
      have Hy : Hid (dk[j]? = some y) := hy
      clear hx hy
      have k0 := cell_regrown c0
      have k1 := cell_regrown c1
      have k2 := cell_regrown c2
      have k3 := cell_regrown c3
      have k4 := cell_regrown c4
      have l0 := cell_regrown d0
      have l1 := cell_regrown d1
      have l2 := cell_regrown d2
      have l3 := cell_regrown d3
      have l4 := cell_regrown d4
      cases hv : x.ltB y with
      | false =>
        have Hv : Hid (x.ltB y = false) := hv
        have hcall := before_grown x y wr false hv
        clear hv
        go_wp2
        refine wp_region_quiet_below (by kernel_rfl) (by kernel_rfl) ?_
        repeat (quiet_step (exact hcall _))
        refine wpQuiet_nil ?_
        intro wq hw'
        have hbl := below_of_regrown hw'
        clear hw' k0 k1 k2 k3 k4 l0 l1 l2 l3 l4 c0 c1 c2 c3 c4 d0 d1 d2 d3 d4 hcall hm
        go_wp2
        exact bodyPost_ret (results_none rfl _ _ _) rfl ⟨rfl, dk, hE.keep (KeptF.of_below (F := fun _ => False) hbl) (fun h => h), hP, hR.done Hx.out (by rw [← Hj.out]; exact Hy.out) Hv.out, hK.trans (KeptF.of_below hbl)⟩
      | true =>
        have Hv : Hid (x.ltB y = true) := hv
        have hcall := before_grown x y wr true hv
        clear hv
        go_wp2
        refine wp_region_quiet_below (by kernel_rfl) (by kernel_rfl) ?_
        repeat (quiet_step (exact hcall _))
        refine wpQuiet_nil ?_
        intro wq hw'
        have hbl := below_of_regrown hw'
        have hEq : EArr wq b T cap dk := hE.keep (KeptF.of_below (F := fun _ => False) hbl) (fun h => h)
        clear hw' k0 k1 k2 k3 k4 l0 l1 l2 l3 l4 c0 c1 c2 c3 c4 d0 d1 d2 d3 d4 hcall hm
        obtain ⟨c0, c1, c2, c3, c4⟩ := hEq.cells Hx.out
        obtain ⟨d0, d1, d2, d3, d4⟩ := hEq.cells Hy.out
        have hz := hEq.frozen
        go_wp2
        go_region
        go_wp2
        clear c0 c1 c2 c3 c4 d0 d1 d2 d3 d4 hz
        go_roundw
        case rel =>
          refine ⟨j, swapL dk i j x y, by go_num, hjn, (swapL_length dk i j x y).trans HL.out, (hEq.swap Hx.out Hy.out).drew, (swapL_perm dk i j x y (by omega) Hx.out Hy.out).trans hP, hR.step Ent.orderly hi0 Hj.out Hx.out Hy.out Hv.out, ?_⟩
          exact ((((hK.trans (KeptF.of_below hbl))).setEnt (.inl rfl) i y).setEnt (.inl rfl) j x).drew
        case measure => simp [intOf]; omega

theorem method_day (a : Addr) (w : World) : (method 299 156 (.pointer (some a)) "horizon/horizon.before").run Try.prog w = .ok (109, .pointer (some a)) w := by kernel_rfl

theorem below_drewN (w : World) (n : Nat) : Below w.heap.size w (w.drewN n) := ⟨rfl, rfl, rfl, Nat.le_refl _, fun _ _ => rfl⟩

theorem dayBefore_grown (x y : Dy) (w : World) (v : Bool) (hv : x.ltB y = v) (hx : w.cell? ⟨x.kb, 0, none⟩ = some (.int .i64 x.date)) (hy : w.cell? ⟨y.kb, 0, none⟩ = some (.int .i64 y.date)) (p : Regrown) :
    Calls Try.prog 109 #[.pointer (some ⟨x.kb, 0, none⟩), .pointer (some ⟨y.kb, 0, none⟩)] (grow (redrawn w p.d) p.os) fun e w'' => e = .returned (.bool v) ∧ ∃ p : Regrown, w'' = grow (redrawn w p.d) p.os := by
  subst hv
  refine Calls.regrown_of ((dayBefore_any x.kb 0 y.kb 0 x.date y.date _ (cell_regrown hx _ _) (cell_regrown hy _ _)).mono ?_)
  rintro e w' ⟨he, n, hw⟩
  rw [hw]
  exact ⟨he, below_drewN _ n⟩

theorem Dated.keep {w w' : World} {b : Nat} {d d' : List Dy} (h : Dated w d) (hb : ∀ e ∈ d, e.kb ≠ b) (hP : d'.Perm d) (hK : KeptF (· = b) w w') : Dated w' d' := by
  intro e he
  have he' := hP.mem_iff.1 he
  rw [hK.cell (block_lt_of_cell (h e he')) (hb e he')]
  exact h e he'

set_option maxRecDepth 100000 in
set_option maxHeartbeats 4000000 in
theorem riseD_any (b n cap T i0 : Nat) (d : List Dy) (w : World) (hA : DArr w b T cap d) (hD : Dated w d) (hB : ∀ e ∈ d, e.kb ≠ b) (hd : d.length = n) (hi : i0 < n) (hn : n ≤ 2932031007317) (hI : RiseInv Dy.ltB d i0) :
    Calls Try.prog 89 #[.slice (some ⟨b, 0, none⟩) n cap, .int .i64 i0] w fun e w' => e = .returned (.tuple #[]) ∧ ∃ d', DArr w' b T cap d' ∧ d'.Perm d ∧ HeapL Dy.ltB d' ∧ KeptF (· = b) w w' := by
  have hm := method_day
  go_enter Try.func89, Try.ntmps89
  go_wp2
  go_loopw [1] (fun si wr => ∃ (i : Nat) (dk : List Dy), si = .int .i64 i ∧ i < n ∧ Hid (dk.length = n) ∧ DArr wr b T cap dk ∧ dk.Perm d ∧ RiseInv Dy.ltB dk i ∧ KeptF (· = b) w wr) (fun si _ => (intOf si).toNat)
  case atStart => exact ⟨i0, d, rfl, hi, hd, hA, List.Perm.refl _, hI, KeptF.refl _ _⟩
  case round =>
    obtain ⟨i, dk, rfl, hin, HL, hE, hP, hR, hK⟩ := hrel
    have hDk := hD.keep hB hP hK
    clear hA hI hd hi hD
    by_cases hz : i = 0
    · subst hz
      go_wp2
      go_end0
      exact ⟨rfl, dk, hE, hP, hR.done0, hK⟩
    · have hi0 : 0 < i := Nat.pos_of_ne_zero hz
      obtain ⟨j, hj⟩ : ∃ j, j = (i - 1) / 2 := ⟨_, rfl⟩
      have hjN : ((i : Int) - 1) / 2 = j := by omega
      have hji : j < i := by omega
      have hjn : j < n := by omega
      have Hj : Hid (j = (i - 1) / 2) := hj
      clear hj
      obtain ⟨x, hx⟩ := get_of_lt (d := dk) (k := i) (by have := HL.out; omega)
      obtain ⟨y, hy⟩ := get_of_lt (d := dk) (k := j) (by have := HL.out; omega)
      have c0 := hE.cells hx
      have d0 := hE.cells hy
      have c1 := hDk x (List.mem_of_getElem? hx)
      have d1 := hDk y (List.mem_of_getElem? hy)
      have Hx : Hid (dk[i]? = some x) := hx
      have Hy : Hid (dk[j]? = some y) := hy
      clear hx hy
      have k0 := cell_regrown c0
      have l0 := cell_regrown d0
      cases hv : x.ltB y with
      | false =>
        have Hv : Hid (x.ltB y = false) := hv
        have hcall := dayBefore_grown x y wr false hv c1 d1
        clear hv c1 d1
        go_wp2
        refine wp_region_quiet_below (by kernel_rfl) (by kernel_rfl) ?_
        repeat (quiet_step (exact hcall _))
        refine wpQuiet_nil ?_
        intro wq hw'
        have hbl := below_of_regrown hw'
        clear hw' k0 l0 c0 d0 hcall hm
        go_wp2
        exact bodyPost_ret (results_none rfl _ _ _) rfl ⟨rfl, dk, hE.keep (KeptF.of_below (F := fun _ => False) hbl) (fun h => h), hP, hR.done Hx.out (by rw [← Hj.out]; exact Hy.out) Hv.out, hK.trans (KeptF.of_below hbl)⟩
      | true =>
        have Hv : Hid (x.ltB y = true) := hv
        have hcall := dayBefore_grown x y wr true hv c1 d1
        clear hv c1 d1
        go_wp2
        refine wp_region_quiet_below (by kernel_rfl) (by kernel_rfl) ?_
        repeat (quiet_step (exact hcall _))
        refine wpQuiet_nil ?_
        intro wq hw'
        have hbl := below_of_regrown hw'
        have hEq : DArr wq b T cap dk := hE.keep (KeptF.of_below (F := fun _ => False) hbl) (fun h => h)
        clear hw' k0 l0 c0 d0 hcall hm
        have c0 := hEq.cells Hx.out
        have d0 := hEq.cells Hy.out
        have hz := hEq.frozen
        go_wp2
        go_region
        go_wp2
        clear c0 d0 hz
        go_roundw
        case rel =>
          refine ⟨j, swapL dk i j x y, by go_num, hjn, (swapL_length dk i j x y).trans HL.out, (hEq.swap Hx.out Hy.out).drew, (swapL_perm dk i j x y (by omega) Hx.out Hy.out).trans hP, hR.step Dy.orderly hi0 Hj.out Hx.out Hy.out Hv.out, ?_⟩
          exact ((((hK.trans (KeptF.of_below hbl))).setCell (p := ⟨b, i, none⟩) (.inl rfl) _).setCell (p := ⟨b, j, none⟩) (.inl rfl) _).drew
        case measure => simp [intOf]; omega

end Go.Proofs.Ytbpaigpjffdcbaa
