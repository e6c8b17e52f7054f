/-
  The walks of sink: at entries, at days.
  Rows of the program's own: a slice value that owns its block; append to it, as one step of a region.
  The walks of heap.push: at entries, at days.
-/
import Derived.Test.YtaieackeflmhgaaJ01
import Derived.Deep.RegionLaw
import Derived.Laws.AppendOwn
namespace Go.Proofs.Ytaieackeflmhgaa
open Go.RowKit Go.Sort

/-- what the inner loop of sink has found: m is the least of i and those children that were looked at (below bl) -/
structure Found {α : Type} (lt : α → α → Bool) (d : List α) (n i m bl : Nat) : Prop where
  lo : 2 * i + 1 ≤ bl
  hi : bl ≤ 2 * i + 3
  at_ : m = i ∨ (2 * i + 1 ≤ m ∧ m < bl ∧ m < n)
  least : ∀ (k : Nat) (a x : α), (k = i ∨ (2 * i + 1 ≤ k ∧ k < bl)) → d[k]? = some a → d[m]? = some x → lt a x = false
  less : ∀ (a x : α), m ≠ i → d[m]? = some a → d[i]? = some x → lt a x = true

theorem Found.start {α : Type} {lt : α → α → Bool} (O : Orderly lt) (d : List α) (n i : Nat) : Found lt d n i i (2 * i + 1) :=
  ⟨by omega, by omega, .inl rfl, fun k a x hk ha hx => by
    rcases hk with hk | hk
    · subst hk; rw [ha] at hx; cases hx; exact O.irrefl _
    · omega, fun a x h => absurd rfl h⟩

/-- the element at bl is not less -/
theorem Found.stay {α : Type} {lt : α → α → Bool} {d : List α} {n i m bl : Nat} {x y : α} (h : Found lt d n i m bl) (hb : bl ≤ 2 * i + 2) (hx : d[bl]? = some x) (hy : d[m]? = some y) (hl : lt x y = false) :
    Found lt d n i m (bl + 1) := by
  refine ⟨by have := h.lo; omega, by omega, by rcases h.at_ with h' | h'; exact .inl h'; exact .inr ⟨h'.1, by omega, h'.2.2⟩, fun k a z hk ha hz => ?_, h.less⟩
  by_cases hkb : k = bl
  · subst hkb
    rw [hx] at ha; rw [hy] at hz
    cases ha; cases hz; exact hl
  · exact h.least k a z (by omega) ha hz

/-- the element at bl is less -/
theorem Found.turn {α : Type} {lt : α → α → Bool} (O : Orderly lt) {d : List α} {n i m bl : Nat} {x y : α} (h : Found lt d n i m bl) (hb : bl ≤ 2 * i + 2) (hbn : bl < n) (hx : d[bl]? = some x) (hy : d[m]? = some y) (hl : lt x y = true) :
    Found lt d n i bl (bl + 1) := by
  refine ⟨by have := h.lo; omega, by omega, .inr ⟨h.lo, by omega, hbn⟩, fun k a z hk ha hz => ?_, fun a z hne ha hz => ?_⟩
  · rw [hx] at hz; cases hz
    by_cases hkb : k = bl
    · subst hkb; rw [hx] at ha; cases ha; exact O.irrefl _
    · exact O.ntrans x y a (O.asymm x y hl) (h.least k a y (by omega) ha hy)
  · rw [hx] at ha; cases ha
    -- x < y, y is not more than d[i]
    have h1 := h.least i z y (.inl rfl) hz hy
    cases h2 : lt x z with
    | true => rfl
    | false =>
      have := O.ntrans y z x h1 h2
      rw [hl] at this; cases this

theorem Found.doneEq {α : Type} {lt : α → α → Bool} {d : List α} {n i bl : Nat} (h : Found lt d n i i bl) (hn : d.length = n) (hb : ¬ (bl ≤ 2 * i + 2 ∧ bl < n)) (hS : SinkInv lt d i) : HeapL lt d := by
  refine hS.done (fun k a x hk hp ha hx => h.least k a x ?_ ha hx)
  have := get_lt ha
  have := h.lo
  have := h.hi
  omega

theorem Found.minChild {α : Type} {lt : α → α → Bool} {d : List α} {n i m bl : Nat} {y : α} (h : Found lt d n i m bl) (hn : d.length = n) (hb : ¬ (bl ≤ 2 * i + 2 ∧ bl < n)) (hy : d[m]? = some y) :
    ∀ k a, 0 < k → (k - 1) / 2 = i → d[k]? = some a → lt a y = false := by
  intro k a hk hp ha
  have := get_lt ha
  have := h.lo
  have := h.hi
  exact h.least k a y (by omega) ha hy

set_option maxRecDepth 100000 in
set_option maxHeartbeats 8000000 in
theorem sinkE_any (b n cap T : Nat) (d : List Ent) (w : World) (hA : EArr w b T cap d) (hd : d.length = n) (hn : n ≤ 2932031007317) (hI : SinkInv Ent.ltB d 0) :
    Calls Try.prog 106 #[.slice (some ⟨b, 0, none⟩) n cap, .int .i64 0] w fun e w' => e = .returned (.tuple #[]) ∧ ∃ d', EArr w' b T cap d' ∧ d'.Perm d ∧ HeapL Ent.ltB d' ∧ KeptF (· = b) w w' := by
  have hm := method_ent
  go_enter Try.func106, Try.ntmps106
  go_wp2
  go_loopw [1] (fun si wr => ∃ (i : Nat) (dk : List Ent), si = .int .i64 i ∧ i ≤ n ∧ (i < n ∨ n = 0) ∧ Hid (dk.length = n) ∧ EArr wr b T cap dk ∧ dk.Perm d ∧ SinkInv Ent.ltB dk i ∧ KeptF (· = b) w wr) (fun si _ => n - (intOf si).toNat)
  case atStart => exact ⟨0, d, rfl, by omega, by omega, hd, hA, List.Perm.refl _, hI, KeptF.refl _ _⟩
  case round =>
    obtain ⟨i, dk, rfl, hin, hin', HL, hE, hP, hS, hK⟩ := hrel
    obtain ⟨w1, hw1⟩ : ∃ w1, w1 = wr := ⟨_, rfl⟩
    subst hw1
    clear hA hI hd
    go_wp2
    go_loopw [4, 5] (fun sl sb w2 => ∃ (m bl : Nat), sl = .int .i64 m ∧ sb = .int .i64 bl ∧ m ≤ 2 * i + 2 ∧ 2 * i + 1 ≤ bl ∧ bl ≤ 2 * i + 3 ∧ Found Ent.ltB dk n i m bl ∧ Below w1.heap.size w1 w2) (fun _ sb _ => 2 * i + 3 - (intOf sb).toNat)
    case atStart => exact ⟨i, 2 * i + 1, rfl, by go_num, by omega, by omega, by omega, Found.start Ent.orderly dk n i, Below.refl _ _⟩
    case round =>
      obtain ⟨m, bl, rfl, rfl, hm2, hbl, hbh, hF, hB2⟩ := hrel
      obtain ⟨w2, hw2⟩ : ∃ w2, w2 = wr := ⟨_, rfl⟩
      subst hw2
      have hE2 : EArr w2 b T cap dk := hE.keep (KeptF.of_below (F := fun _ => False) hB2) (fun h => h)
      by_cases c1 : bl ≤ 2 * i + 2
      · by_cases c2 : bl < n
        · have hmn : m < n := by rcases hF.at_ with h | h <;> omega
          obtain ⟨x, hx⟩ := get_of_lt (d := dk) (k := bl) (by have := HL.out; omega)
          obtain ⟨y, hy⟩ := get_of_lt (d := dk) (k := m) (by have := HL.out; omega)
          obtain ⟨c0, c1', c2', c3, c4⟩ := hE2.cells hx
          obtain ⟨d0, d1, d2, d3, d4⟩ := hE2.cells hy
          have Hx : Hid (dk[bl]? = some x) := hx
          have Hy : Hid (dk[m]? = some y) := hy
          clear hx hy
          have k0 := cell_regrown c0
          have k1 := cell_regrown c1'
          have k2 := cell_regrown c2'
          have k3 := cell_regrown c3
          have k4 := cell_regrown c4
          have l0 := cell_regrown d0
          have l1 := cell_regrown d1
          have l2 := cell_regrown d2
          have l3 := cell_regrown d3
          have l4 := cell_regrown d4
          cases hv : x.ltB y with
          | false =>
            have Hv : Hid (x.ltB y = false) := hv
            have hcall := before_grown x y w2 false hv
            clear hv
            go_wp2
            refine wp_region_quiet_below (by kernel_rfl) (by kernel_rfl) ?_
            repeat (quiet_step (exact hcall _))
            refine wpQuiet_nil ?_
            intro wq hw'
            have hbl := below_of_regrown hw'
            clear hw' k0 k1 k2 k3 k4 l0 l1 l2 l3 l4 c0 c1' c2' c3 c4 d0 d1 d2 d3 d4 hcall hm
            go_wp2
            go_roundw
            case rel => exact ⟨m, bl + 1, rfl, by go_num, hm2, by omega, by omega, hF.stay c1 Hx.out Hy.out Hv.out, hB2.trans (hbl.mono hB2.size)⟩
            case measure => simp [intOf]; omega
          | true =>
            have Hv : Hid (x.ltB y = true) := hv
            have hcall := before_grown x y w2 true hv
            clear hv
            go_wp2
            refine wp_region_quiet_below (by kernel_rfl) (by kernel_rfl) ?_
            repeat (quiet_step (exact hcall _))
            refine wpQuiet_nil ?_
            intro wq hw'
            have hbl := below_of_regrown hw'
            clear hw' k0 k1 k2 k3 k4 l0 l1 l2 l3 l4 c0 c1' c2' c3 c4 d0 d1 d2 d3 d4 hcall hm
            go_wp2
            go_roundw
            case rel => exact ⟨bl, bl + 1, rfl, by go_num, by omega, by omega, by omega, hF.turn Ent.orderly c1 c2 Hx.out Hy.out Hv.out, hB2.trans (hbl.mono hB2.size)⟩
            case measure => simp [intOf]; omega
        · have hout : ¬ (bl ≤ 2 * i + 2 ∧ bl < n) := fun h => c2 h.2
          by_cases hmi : m = i
          · subst hmi
            go_wp2
            exact bodyPost_ret (results_none rfl _ _ _) rfl ⟨rfl, dk, hE2, hP, hF.doneEq HL.out hout hS, hK.trans (KeptF.of_below hB2)⟩
          · have hmi' : ((m : Int) == (i : Int)) = false := beq_eq_false_iff_ne.2 (by omega)
            have hat : 2 * i + 1 ≤ m ∧ m < bl ∧ m < n := by rcases hF.at_ with h | h; exact absurd h hmi; exact h
            have hmn : m < n := hat.2.2
            have him : i < m := by omega
            have hin2 : i < n := by omega
            obtain ⟨x, hx⟩ := get_of_lt (d := dk) (k := i) (by have := HL.out; omega)
            obtain ⟨y, hy⟩ := get_of_lt (d := dk) (k := m) (by have := HL.out; omega)
            obtain ⟨c0, c1', c2', c3, c4⟩ := hE2.cells hx
            obtain ⟨d0, d1, d2, d3, d4⟩ := hE2.cells hy
            have Hx : Hid (dk[i]? = some x) := hx
            have Hy : Hid (dk[m]? = some y) := hy
            clear hx hy hm
            have hz := hE2.frozen
            go_wp2
            go_region
            go_wp2
            clear c0 c1' c2' c3 c4 d0 d1 d2 d3 d4 hz
            go_roundw
            case rel =>
              refine ⟨m, swapL dk i m x y, by go_num, by omega, .inl hmn, (swapL_length dk i m x y).trans HL.out, (hE2.swap Hx.out Hy.out).drew, (swapL_perm dk i m x y (by omega) Hx.out Hy.out).trans hP, hS.step Ent.orderly (by omega) (by omega) Hx.out Hy.out (hF.less y x hmi Hy.out Hx.out) (hF.minChild HL.out hout Hy.out), ?_⟩
              exact ((((hK.trans (KeptF.of_below hB2))).setEnt (.inl rfl) i y).setEnt (.inl rfl) m x).drew
            case measure => simp [intOf]; omega
      · have hout : ¬ (bl ≤ 2 * i + 2 ∧ bl < n) := fun h => c1 h.1
        have c1d : decide ((bl : Int) ≤ 2 * (i : Int) + 2) = false := decide_eq_false (by omega)
        by_cases hmi : m = i
        · subst hmi
          go_wp2
          exact bodyPost_ret (results_none rfl _ _ _) rfl ⟨rfl, dk, hE2, hP, hF.doneEq HL.out hout hS, hK.trans (KeptF.of_below hB2)⟩
        · have hmi' : ((m : Int) == (i : Int)) = false := beq_eq_false_iff_ne.2 (by omega)
          have hat : 2 * i + 1 ≤ m ∧ m < bl ∧ m < n := by rcases hF.at_ with h | h; exact absurd h hmi; exact h
          have hmn : m < n := hat.2.2
          have him : i < m := by omega
          have hin2 : i < n := by omega
          obtain ⟨x, hx⟩ := get_of_lt (d := dk) (k := i) (by have := HL.out; omega)
          obtain ⟨y, hy⟩ := get_of_lt (d := dk) (k := m) (by have := HL.out; omega)
          obtain ⟨c0, c1', c2', c3, c4⟩ := hE2.cells hx
          obtain ⟨d0, d1, d2, d3, d4⟩ := hE2.cells hy
          have Hx : Hid (dk[i]? = some x) := hx
          have Hy : Hid (dk[m]? = some y) := hy
          clear hx hy hm
          have hz := hE2.frozen
          go_wp2
          go_region
          go_wp2
          clear c0 c1' c2' c3 c4 d0 d1 d2 d3 d4 hz
          go_roundw
          case rel =>
            refine ⟨m, swapL dk i m x y, by go_num, by omega, .inl hmn, (swapL_length dk i m x y).trans HL.out, (hE2.swap Hx.out Hy.out).drew, (swapL_perm dk i m x y (by omega) Hx.out Hy.out).trans hP, hS.step Ent.orderly (by omega) (by omega) Hx.out Hy.out (hF.less y x hmi Hy.out Hx.out) (hF.minChild HL.out hout Hy.out), ?_⟩
            exact ((((hK.trans (KeptF.of_below hB2))).setEnt (.inl rfl) i y).setEnt (.inl rfl) m x).drew
          case measure => simp [intOf]; omega

set_option maxRecDepth 100000 in
set_option maxHeartbeats 8000000 in
theorem sinkD_any (b n cap T : Nat) (d : List Dy) (w : World) (hA : DArr w b T cap d) (hD : Dated w d) (hB : ∀ e ∈ d, e.kb ≠ b) (hd : d.length = n) (hn : n ≤ 2932031007317) (hI : SinkInv Dy.ltB d 0) :
    Calls Try.prog 107 #[.slice (some ⟨b, 0, none⟩) n cap, .int .i64 0] w fun e w' => e = .returned (.tuple #[]) ∧ ∃ d', DArr w' b T cap d' ∧ d'.Perm d ∧ HeapL Dy.ltB d' ∧ KeptF (· = b) w w' := by
  have hm := method_day
  go_enter Try.func107, Try.ntmps107
  go_wp2
  go_loopw [1] (fun si wr => ∃ (i : Nat) (dk : List Dy), si = .int .i64 i ∧ i ≤ n ∧ (i < n ∨ n = 0) ∧ Hid (dk.length = n) ∧ DArr wr b T cap dk ∧ dk.Perm d ∧ SinkInv Dy.ltB dk i ∧ KeptF (· = b) w wr) (fun si _ => n - (intOf si).toNat)
  case atStart => exact ⟨0, d, rfl, by omega, by omega, hd, hA, List.Perm.refl _, hI, KeptF.refl _ _⟩
  case round =>
    obtain ⟨i, dk, rfl, hin, hin', HL, hE, hP, hS, hK⟩ := hrel
    obtain ⟨w1, hw1⟩ : ∃ w1, w1 = wr := ⟨_, rfl⟩
    subst hw1
    have hDk := hD.keep hB hP hK
    clear hA hI hd hD hB
    go_wp2
    go_loopw [4, 5] (fun sl sb w2 => ∃ (m bl : Nat), sl = .int .i64 m ∧ sb = .int .i64 bl ∧ m ≤ 2 * i + 2 ∧ 2 * i + 1 ≤ bl ∧ bl ≤ 2 * i + 3 ∧ Found Dy.ltB dk n i m bl ∧ Below w1.heap.size w1 w2) (fun _ sb _ => 2 * i + 3 - (intOf sb).toNat)
    case atStart => exact ⟨i, 2 * i + 1, rfl, by go_num, by omega, by omega, by omega, Found.start Dy.orderly dk n i, Below.refl _ _⟩
    case round =>
      obtain ⟨m, bl, rfl, rfl, hm2, hbl, hbh, hF, hB2⟩ := hrel
      obtain ⟨w2, hw2⟩ : ∃ w2, w2 = wr := ⟨_, rfl⟩
      subst hw2
      have hE2 : DArr w2 b T cap dk := hE.keep (KeptF.of_below (F := fun _ => False) hB2) (fun h => h)
      by_cases c1 : bl ≤ 2 * i + 2
      · by_cases c2 : bl < n
        · have hmn : m < n := by rcases hF.at_ with h | h <;> omega
          obtain ⟨x, hx⟩ := get_of_lt (d := dk) (k := bl) (by have := HL.out; omega)
          obtain ⟨y, hy⟩ := get_of_lt (d := dk) (k := m) (by have := HL.out; omega)
          have c0 := hE2.cells hx
          have d0 := hE2.cells hy
          have Hx : Hid (dk[bl]? = some x) := hx
          have Hy : Hid (dk[m]? = some y) := hy
          clear hx hy
          have k0 := cell_regrown c0
          have l0 := cell_regrown d0
          have c1' : w2.cell? ⟨x.kb, 0, none⟩ = some (.int .i64 x.date) := by rw [hB2.cell (block_lt_of_cell (hDk x (List.mem_of_getElem? Hx.out)))]; exact hDk x (List.mem_of_getElem? Hx.out)
          have d1 : w2.cell? ⟨y.kb, 0, none⟩ = some (.int .i64 y.date) := by rw [hB2.cell (block_lt_of_cell (hDk y (List.mem_of_getElem? Hy.out)))]; exact hDk y (List.mem_of_getElem? Hy.out)
          cases hv : x.ltB y with
          | false =>
            have Hv : Hid (x.ltB y = false) := hv
            have hcall := dayBefore_grown x y w2 false hv c1' d1
            clear hv
            go_wp2
            refine wp_region_quiet_below (by kernel_rfl) (by kernel_rfl) ?_
            repeat (quiet_step (exact hcall _))
            refine wpQuiet_nil ?_
            intro wq hw'
            have hbl := below_of_regrown hw'
            clear hw' k0 l0 c0 c1' d0 d1 hcall hm
            go_wp2
            go_roundw
            case rel => exact ⟨m, bl + 1, rfl, by go_num, hm2, by omega, by omega, hF.stay c1 Hx.out Hy.out Hv.out, hB2.trans (hbl.mono hB2.size)⟩
            case measure => simp [intOf]; omega
          | true =>
            have Hv : Hid (x.ltB y = true) := hv
            have hcall := dayBefore_grown x y w2 true hv c1' d1
            clear hv
            go_wp2
            refine wp_region_quiet_below (by kernel_rfl) (by kernel_rfl) ?_
            repeat (quiet_step (exact hcall _))
            refine wpQuiet_nil ?_
            intro wq hw'
            have hbl := below_of_regrown hw'
            clear hw' k0 l0 c0 c1' d0 d1 hcall hm
            go_wp2
            go_roundw
            case rel => exact ⟨bl, bl + 1, rfl, by go_num, by omega, by omega, by omega, hF.turn Dy.orderly c1 c2 Hx.out Hy.out Hv.out, hB2.trans (hbl.mono hB2.size)⟩
            case measure => simp [intOf]; omega
        · have hout : ¬ (bl ≤ 2 * i + 2 ∧ bl < n) := fun h => c2 h.2
          by_cases hmi : m = i
          · subst hmi
            go_wp2
            exact bodyPost_ret (results_none rfl _ _ _) rfl ⟨rfl, dk, hE2, hP, hF.doneEq HL.out hout hS, hK.trans (KeptF.of_below hB2)⟩
          · have hmi' : ((m : Int) == (i : Int)) = false := beq_eq_false_iff_ne.2 (by omega)
            have hat : 2 * i + 1 ≤ m ∧ m < bl ∧ m < n := by rcases hF.at_ with h | h; exact absurd h hmi; exact h
            have hmn : m < n := hat.2.2
            have him : i < m := by omega
            have hin2 : i < n := by omega
            obtain ⟨x, hx⟩ := get_of_lt (d := dk) (k := i) (by have := HL.out; omega)
            obtain ⟨y, hy⟩ := get_of_lt (d := dk) (k := m) (by have := HL.out; omega)
            have c0 := hE2.cells hx
            have d0 := hE2.cells hy
            have Hx : Hid (dk[i]? = some x) := hx
            have Hy : Hid (dk[m]? = some y) := hy
            clear hx hy hm
            have hz := hE2.frozen
            go_wp2
            go_region
            go_wp2
            clear c0 d0 hz
            go_roundw
            case rel =>
              refine ⟨m, swapL dk i m x y, by go_num, by omega, .inl hmn, (swapL_length dk i m x y).trans HL.out, (hE2.swap Hx.out Hy.out).drew, (swapL_perm dk i m x y (by omega) Hx.out Hy.out).trans hP, hS.step Dy.orderly (by omega) (by omega) Hx.out Hy.out (hF.less y x hmi Hy.out Hx.out) (hF.minChild HL.out hout Hy.out), ?_⟩
              exact ((((hK.trans (KeptF.of_below hB2))).setCell (p := ⟨b, i, none⟩) (.inl rfl) _).setCell (p := ⟨b, m, none⟩) (.inl rfl) _).drew
            case measure => simp [intOf]; omega
      · have hout : ¬ (bl ≤ 2 * i + 2 ∧ bl < n) := fun h => c1 h.1
        have c1d : decide ((bl : Int) ≤ 2 * (i : Int) + 2) = false := decide_eq_false (by omega)
        by_cases hmi : m = i
        · subst hmi
          go_wp2
          exact bodyPost_ret (results_none rfl _ _ _) rfl ⟨rfl, dk, hE2, hP, hF.doneEq HL.out hout hS, hK.trans (KeptF.of_below hB2)⟩
        · have hmi' : ((m : Int) == (i : Int)) = false := beq_eq_false_iff_ne.2 (by omega)
          have hat : 2 * i + 1 ≤ m ∧ m < bl ∧ m < n := by rcases hF.at_ with h | h; exact absurd h hmi; exact h
          have hmn : m < n := hat.2.2
          have him : i < m := by omega
          have hin2 : i < n := by omega
          obtain ⟨x, hx⟩ := get_of_lt (d := dk) (k := i) (by have := HL.out; omega)
          obtain ⟨y, hy⟩ := get_of_lt (d := dk) (k := m) (by have := HL.out; omega)
          have c0 := hE2.cells hx
          have d0 := hE2.cells hy
          have Hx : Hid (dk[i]? = some x) := hx
          have Hy : Hid (dk[m]? = some y) := hy
          clear hx hy hm
          have hz := hE2.frozen
          go_wp2
          go_region
          go_wp2
          clear c0 d0 hz
          go_roundw
          case rel =>
            refine ⟨m, swapL dk i m x y, by go_num, by omega, .inl hmn, (swapL_length dk i m x y).trans HL.out, (hE2.swap Hx.out Hy.out).drew, (swapL_perm dk i m x y (by omega) Hx.out Hy.out).trans hP, hS.step Dy.orderly (by omega) (by omega) Hx.out Hy.out (hF.less y x hmi Hy.out Hx.out) (hF.minChild HL.out hout Hy.out), ?_⟩
            exact ((((hK.trans (KeptF.of_below hB2))).setCell (p := ⟨b, i, none⟩) (.inl rfl) _).setCell (p := ⟨b, m, none⟩) (.inl rfl) _).drew
          case measure => simp [intOf]; omega


end Go.Proofs.Ytaieackeflmhgaa

namespace Go.Proofs.Ytaieackeflmhgaa
open Go.RowKit

theorem World.ownsRow_mono {w : World} {B B' : Nat} {e : TypeId} {size : Nat} {v : Value} {n : Nat} {xs : List Value} (h : w.ownsRow B e size v n xs) (hB : B' ≤ B) : w.ownsRow B' e size v n xs := by
  obtain ⟨h1, h2⟩ := h
  refine ⟨h1, ?_⟩
  rcases h2 with h2 | ⟨g, cap, cur, hv, hg, r⟩
  · exact .inl h2
  · exact .inr ⟨g, cap, cur, hv, by omega, r⟩

theorem World.ownsRow_ge {w : World} {B : Nat} {e : TypeId} {size : Nat} {v : Value} {n : Nat} {xs : List Value} (h : w.ownsRow B e size v n xs) (g : Nat) (hg : v.ownBlock = some g) : B ≤ g := (h.lt g hg).1

/-- append to a row of one's own: where the new value's block lies is said, too -/
theorem run_append_ownX {P : Program} (w : World) (base : Nat) (t ty e : TypeId) (i : TypeInfo) (z : Value) (size bytes : Nat) (ht : P.underlying t = some (.slice e)) (hi : P.info? e = some i) (hz : i.zero = some z)
    (hsize : i.size = size) (hby : i.bytes = bytes) (hzs : z.cells.size = size) (hsz : 0 < size)
    (v : Value) (n : Nat) (xs : List Value) (hown : w.ownsRow base e size v n xs)
    (a : Addr) (m c : Nat) (news : List Value) (hl : news.length = m * size) (hnews : ∀ j u, news[j]? = some u → w.cell? (a.add j) = some u) (h1 : ∀ u ∈ news, u.oneCell' = true)
    (h63 : n + m ≤ maxLen) (hbytes : (n + m) * bytes ≤ 140737488355328) (hbase : base ≤ w.heap.size) :
    ∃ v' w', (Builtin.append_ #[t, t] ty #[v, .slice (some a) m c]).run P w = .ok v' w' ∧ w'.ownsRow base e size v' (n + m) (xs ++ news) ∧ w.grownBy w' v.ownBlock ∧
      (∀ g, v'.ownBlock = some g → v.ownBlock = some g ∨ w.heap.size ≤ g) := by
  rcases hown.2 with ⟨hv, hn⟩ | ⟨g, cap, cur, hv, hbg, hg, hnc, hcm, hcs, htake⟩
  · subst hv; subst hn
    have hx : xs = [] := List.eq_nil_of_length_eq_zero (by simpa using hown.1)
    subst hx
    obtain ⟨v', w', r, r1, r2, _⟩ := run_append_own (P := P) w w.heap.size t ty e i z size bytes ht hi hz hsize hby hzs hsz (.slice none 0 0) 0 [] (World.ownsRow_nil w _ e size) a m c news hl hnews h1 h63 hbytes (Nat.le_refl _)
    exact ⟨v', w', r, World.ownsRow_mono r1 hbase, r2, fun g h => .inr (World.ownsRow_ge r1 g h)⟩
  · by_cases hroom : n + m ≤ cap
    · obtain ⟨v', w', r, r1, r2, _⟩ := run_append_own (P := P) w base t ty e i z size bytes ht hi hz hsize hby hzs hsz v n xs hown a m c news hl hnews h1 h63 hbytes hbase
      subst hv
      have hfit : n * i.size + news.length ≤ cur.size := by rw [hl, hcs, hsize, ← Nat.add_mul]; exact Nat.mul_le_mul_right _ hroom
      have hr := run_append_room (P := P) w t ty e i ht hi g n cap cur hg a m c news (by rw [hsize]; exact hl) hnews h1 hroom hfit
      have he := r.symm.trans hr
      simp only [Result.ok.injEq] at he
      refine ⟨v', w', r, r1, r2, fun k hk => .inl ?_⟩
      rw [he.1] at hk
      exact hk
    · subst hv
      obtain ⟨v', w', r, r1, r2⟩ := run_append_arg_grows (P := P) w t ty e i z size bytes ht hi hz hsize hby hzs hsz ⟨g, 0, none⟩ n cap xs hown.1 (hown.cells (g := g) rfl) a m c news hl hnews (by omega) h63 hbytes
      exact ⟨v', w', r, World.ownsRow_mono r1 hbase, ⟨r2.os, r2.tape, r2.output, r2.size, fun k hk _ => r2.block k hk (by simp)⟩, fun k hk => .inr (World.ownsRow_ge r1 k hk)⟩

theorem wpList_append_ownX {P : Program} {w : World} {ops : Array Oper} {rest : List Oper} {o : Oper} {a : Act} {Q : Exit → Act → World → Prop} (hgd : o.guard = none) (s x : Operand) (t : TypeId)
    (ho : o.op = .call { callee := .builtin .append, args := #[s, x], argTypes := #[t, t] })
    (base : Nat) (e : TypeId) (i : TypeInfo) (z : Value) (size bytes : Nat) (ht : P.underlying t = some (.slice e)) (hi : P.info? e = some i) (hz : i.zero = some z)
    (hsize : i.size = size) (hby : i.bytes = bytes) (hzs : z.cells.size = size) (hsz : 0 < size)
    (v : Value) (n : Nat) (xs : List Value) (hs : a.eval s = v) (hown : w.ownsRow base e size v n xs)
    (ad : Addr) (m c : Nat) (news : List Value) (hx : a.eval x = .slice (some ad) m c) (hl : news.length = m * size) (hnews : ∀ j u, news[j]? = some u → w.cell? (ad.add j) = some u) (h1 : ∀ u ∈ news, u.oneCell' = true)
    (h63 : n + m ≤ maxLen) (hbytes : (n + m) * bytes ≤ 140737488355328) (hbase : base ≤ w.heap.size)
    (h : ∀ v' w', w'.ownsRow base e size v' (n + m) (xs ++ news) → w.grownBy w' v.ownBlock → (∀ g, v'.ownBlock = some g → v.ownBlock = some g ∨ w.heap.size ≤ g) → wpList P ops Q rest (a.put o.dst v') w') : wpList P ops Q (o :: rest) a w :=
  wpList_plain hgd fun _ hK => by
    obtain ⟨v', w', hr, r1, r2, r3⟩ := run_append_ownX (P := P) w base t o.type e i z size bytes ht hi hz hsize hby hzs hsz v n xs hown ad m c news hl hnews h1 h63 hbytes hbase
    unfold Oper.wp execOp
    simp only [ho, resolve, invoke, builtin, Sem.run_bind, Sem.run_pure, Result.andThen_ok, List.map_toArray, List.map_cons, List.map_nil, hs, hx, hr]
    exact hK _ _ (h v' w' r1 r2 r3)

theorem step_append_own {P : Program} {ops : Array Oper} {o : Oper} {a : Act} {w : World} {K : Act → World → Prop} {Q : Exit → Act → World → Prop} {E : Prop}
    (hg : o.guard = none) (s x : Operand) (t : TypeId) (hop : o.op = Op.call { callee := Callee.builtin Builtin.append, args := #[s, x], argTypes := #[t, t] })
    (base : Nat) (e : TypeId) (i : TypeInfo) (z : Value) (size bytes : Nat) (h1 : P.underlying t = some (.slice e)) (h2 : P.info? e = some i) (h3 : i.zero = some z) (h4 : i.size = size) (h5 : i.bytes = bytes) (h6 : z.cells.size = size) (h7 : 0 < size)
    (v : Value) (n : Nat) (xs : List Value) (hs : a.eval s = v) (hown : w.ownsRow base e size v n xs)
    (ad : Addr) (m c : Nat) (news : List Value) (hx : a.eval x = .slice (some ad) m c) (hn : news.length = m * size) (hc : ∀ j u, news[j]? = some u → w.cell? (ad.add j) = some u) (h1c : ∀ u ∈ news, u.oneCell' = true)
    (b1 : n + m ≤ maxLen) (b2 : (n + m) * bytes ≤ 140737488355328) (hbase : base ≤ w.heap.size)
    (hK : ∀ v' w', w'.ownsRow base e size v' (n + m) (xs ++ news) → w.grownBy w' v.ownBlock → (∀ g, v'.ownBlock = some g → v.ownBlock = some g ∨ w.heap.size ≤ g) → K (a.put o.dst v') w') :
    if Region.wanted o (yielded ops a.tmps) = true then Oper.wp P o a w K Q else E := by
  have hw : Region.wanted o (yielded ops a.tmps) = true := by simp [Region.wanted, hg]
  rw [if_pos hw]
  obtain ⟨v', w', hrun, r1, r2, r3⟩ := run_append_ownX (P := P) w base t o.type e i z size bytes h1 h2 h3 h4 h5 h6 h7 v n xs hown ad m c news hn hc h1c b1 b2 hbase
  unfold Oper.wp
  simp [execOp, hop, resolve, invoke, builtin, hs, hx, hrun, Result.andThen]
  exact hK v' w' r1 r2 r3

theorem ownsRow_keep {F : Nat → Prop} {w w' : World} {B : Nat} {e : TypeId} {size : Nat} {v : Value} {n : Nat} {xs : List Value} (h : w.ownsRow B e size v n xs) (k : KeptF F w w') (hF : ∀ g, v.ownBlock = some g → ¬ F g) : w'.ownsRow B e size v n xs := by
  obtain ⟨h1, h2⟩ := h
  refine ⟨h1, ?_⟩
  rcases h2 with h2 | ⟨g, cap, cur, hv, hg, hh, r⟩
  · exact .inl h2
  · refine .inr ⟨g, cap, cur, hv, hg, ?_, r⟩
    have : g < w.heap.size := Blk.lt hh
    rw [k.block g this (hF g (by rw [hv]; rfl))]
    exact hh

def entC (e : Ent) : List Value := [.int .i64 e.it.t, .int .i64 e.it.f, .int .i64 e.it.s, .int .i64 e.it.l, .int .i64 e.r]
def entsC : List Ent → List Value
  | [] => []
  | e :: d => entC e ++ entsC d

theorem entsC_length : ∀ d : List Ent, (entsC d).length = d.length * 5
  | [] => rfl
  | e :: d => by simp only [entsC, List.length_append, entsC_length d, List.length_cons]; simp only [entC, List.length_cons, List.length_nil]; omega

theorem entsC_append : ∀ (d d' : List Ent), entsC (d ++ d') = entsC d ++ entsC d'
  | [], d' => rfl
  | e :: d, d' => by simp only [List.cons_append, entsC, entsC_append d d', List.append_assoc]

theorem entsC_get : ∀ (d : List Ent) (j : Nat) (e : Ent) (k : Nat), d[j]? = some e → k < 5 → (entsC d)[j * 5 + k]? = (entC e)[k]?
  | [], j, e, k, h, _ => by simp at h
  | a :: d, 0, e, k, h, hk => by
    simp only [List.getElem?_cons_zero, Option.some.injEq] at h
    subst h
    simp only [entsC, Nat.zero_mul, Nat.zero_add]
    rw [List.getElem?_append_left (by simp [entC]; omega)]
  | a :: d, j + 1, e, k, h, hk => by
    simp only [List.getElem?_cons_succ] at h
    simp only [entsC]
    rw [List.getElem?_append_right (by simp [entC]; omega)]
    have : (j + 1) * 5 + k - (entC a).length = j * 5 + k := by simp [entC]; omega
    rw [this]
    exact entsC_get d j e k h hk

theorem ERow.of_take {c : Array Value} {d : List Ent} (h : c.toList.take (d.length * 5) = entsC d) : ERow c d := by
  intro j e he
  have hj := get_lt he
  have key : ∀ k, k < 5 → c[j * 5 + k]? = (entC e)[k]? := by
    intro k hk
    rw [← entsC_get d j e k he hk, ← h, List.getElem?_take_of_lt (by omega)]
    simp
  exact ⟨key 0 (by omega), key 1 (by omega), key 2 (by omega), key 3 (by omega), key 4 (by omega)⟩

theorem ERow.take {c : Array Value} {d : List Ent} (h : ERow c d) (hs : d.length * 5 ≤ c.size) : c.toList.take (d.length * 5) = entsC d := by
  apply List.ext_getElem?
  intro o
  by_cases ho : o < d.length * 5
  · rw [List.getElem?_take_of_lt ho]
    obtain ⟨e, he⟩ := get_of_lt (d := d) (k := o / 5) (by omega)
    have hk : o % 5 < 5 := Nat.mod_lt _ (by omega)
    have ho' : o = o / 5 * 5 + o % 5 := by omega
    rw [ho', entsC_get d (o / 5) e (o % 5) he hk]
    obtain ⟨h0, h1, h2, h3, h4⟩ := h (o / 5) e he
    have : o % 5 = 0 ∨ o % 5 = 1 ∨ o % 5 = 2 ∨ o % 5 = 3 ∨ o % 5 = 4 := by omega
    rcases this with hr | hr | hr | hr | hr <;> rw [hr]
    · simpa [entC] using h0
    · simpa [entC] using h1
    · simpa [entC] using h2
    · simpa [entC] using h3
    · simpa [entC] using h4
  · rw [List.getElem?_eq_none (by simp; omega), List.getElem?_eq_none (by rw [entsC_length]; omega)]

/-- A slice value that owns its row of entries, its block from B on. -/
def ESl (w : World) (B : Nat) (v : Value) (d : List Ent) : Prop := w.ownsRow B 174 5 v d.length (entsC d)

theorem ESl.nil (w : World) (B : Nat) : ESl w B (.slice none 0 0) [] := World.ownsRow_nil w B _ _

theorem ESl.cases {w : World} {B : Nat} {v : Value} {d : List Ent} (h : ESl w B v d) :
    (v = .slice none 0 0 ∧ d = []) ∨ ∃ g cap, v = .slice (some ⟨g, 0, none⟩) d.length cap ∧ B ≤ g ∧ cap ≤ maxLen ∧ EArr w g 174 cap d := by
  obtain ⟨h1, h2⟩ := h
  rcases h2 with ⟨h2, h3⟩ | ⟨g, cap, cur, hv, hB, hg, hn, hm, hs, ht⟩
  · exact .inl ⟨h2, List.eq_nil_of_length_eq_zero h3⟩
  · exact .inr ⟨g, cap, hv, hB, hm, ⟨⟨cur, hg, hs, ERow.of_take ht⟩, hn⟩⟩

theorem ESl.mk {w : World} {B g cap : Nat} {d : List Ent} (hB : B ≤ g) (hm : cap ≤ maxLen) (h : EArr w g 174 cap d) : ESl w B (.slice (some ⟨g, 0, none⟩) d.length cap) d := by
  obtain ⟨c, h1, h2, h3⟩ := h.ex
  exact ⟨entsC_length d, .inr ⟨g, cap, c, rfl, hB, h1, h.fits, hm, h2, h3.take (by have := h.fits; omega)⟩⟩

def dayC (d : List Dy) : List Value := d.map fun e => .pointer (some ⟨e.kb, 0, none⟩)
def DSl (w : World) (B : Nat) (v : Value) (d : List Dy) : Prop := w.ownsRow B 170 1 v d.length (dayC d)

theorem DSl.nil (w : World) (B : Nat) : DSl w B (.slice none 0 0) [] := World.ownsRow_nil w B _ _

theorem DSl.cases {w : World} {B : Nat} {v : Value} {d : List Dy} (h : DSl w B v d) :
    (v = .slice none 0 0 ∧ d = []) ∨ ∃ g cap, v = .slice (some ⟨g, 0, none⟩) d.length cap ∧ B ≤ g ∧ cap ≤ maxLen ∧ DArr w g 170 cap d := by
  obtain ⟨h1, h2⟩ := h
  rcases h2 with ⟨h2, h3⟩ | ⟨g, cap, cur, hv, hB, hg, hn, hm, hs, ht⟩
  · exact .inl ⟨h2, List.eq_nil_of_length_eq_zero h3⟩
  · refine .inr ⟨g, cap, hv, hB, hm, ⟨⟨cur, hg, by simpa using hs, fun j e he => ?_⟩, hn⟩⟩
    have hj := get_lt he
    have h3 : (dayC d)[j]? = some (.pointer (some ⟨e.kb, 0, none⟩)) := by simp [dayC, he]
    rw [← ht, List.getElem?_take_of_lt (by omega)] at h3
    simpa using h3

theorem DSl.mk {w : World} {B g cap : Nat} {d : List Dy} (hB : B ≤ g) (hm : cap ≤ maxLen) (h : DArr w g 170 cap d) : DSl w B (.slice (some ⟨g, 0, none⟩) d.length cap) d := by
  obtain ⟨c, h1, h2, h3⟩ := h.ex
  refine ⟨by simp [dayC], .inr ⟨g, cap, c, rfl, hB, h1, h.fits, hm, by omega, ?_⟩⟩
  apply List.ext_getElem?
  intro o
  by_cases ho : o < d.length
  · rw [List.getElem?_take_of_lt (by omega)]
    obtain ⟨e, he⟩ := get_of_lt ho
    have := h3 o e he
    simp [dayC, he]
    simpa using this
  · rw [List.getElem?_eq_none (by simp; omega), List.getElem?_eq_none (by simp [dayC]; omega)]

theorem KeptF.of_grown {F : Nat → Prop} {w w' : World} {row : Option Nat} (h : w.grownBy w' row) (hr : ∀ k, row = some k → k < w.heap.size → F k) : KeptF F w w' :=
  ⟨h.os, h.tape, h.output, h.size, fun k hk hF => h.block k hk (fun e => hF (hr k e.symm hk))⟩

end Go.Proofs.Ytaieackeflmhgaa

namespace Go.Proofs.Ytaieackeflmhgaa
open Go.RowKit Go.Sort

theorem info_ent : (Try.prog.info? 174).map (fun i => (i.zero, i.size, i.bytes)) = some (some (.agg #[.int .i64 0, .int .i64 0, .int .i64 0, .int .i64 0, .int .i64 0]), 5, 40) := by kernel_rfl
theorem info_dayp : (Try.prog.info? 170).map (fun i => (i.zero, i.size, i.bytes)) = some (some (.pointer none), 1, 8) := by kernel_rfl

theorem ESl.form {w : World} {B : Nat} {v : Value} {d : List Ent} (h : ESl w B v d) : ∃ ao cap, v = .slice ao d.length cap := by
  rcases h.cases with ⟨h1, h2⟩ | ⟨g, cap, h1, _⟩
  · subst h2; exact ⟨none, 0, h1⟩
  · exact ⟨_, _, h1⟩

theorem grownE {w W w' : World} {B kb o Tk : Nat} {c0 : Array Value} {v v' : Value} {d : List Ent} {x : Ent} (hk : Blk w kb c0 Tk) (hown' : w'.ownsRow B 174 5 v' (d.length + 1) (entsC d ++ entC x)) (hgr : W.grownBy w' v.ownBlock)
    (hfr : ∀ g, v'.ownBlock = some g → v.ownBlock = some g ∨ W.heap.size ≤ g) (hne : v.ownBlock ≠ some kb) (ho : c0[o]? = some v) (hW : KeptF (fun _ => False) w W) :
    ∃ g cap', v' = .slice (some ⟨g, 0, none⟩) (d.length + 1) cap' ∧ B ≤ g ∧ cap' ≤ maxLen ∧ g ≠ kb ∧ (v.ownBlock = some g ∨ w.heap.size ≤ g) ∧ EArr w' g 174 cap' (d ++ [x]) ∧ Blk w' kb c0 Tk ∧ KeptF (fun k => v.ownBlock = some k) w w' ∧ w'.cell? ⟨kb, o, none⟩ = some v ∧ w'.frozen? ⟨kb, o, none⟩ = false := by
  have e1 : entsC d ++ entC x = entsC (d ++ [x]) := by rw [entsC_append]; simp [entsC]
  have e2 : (d ++ [x]).length = d.length + 1 := by simp
  have hE : ESl w' B v' (d ++ [x]) := by unfold ESl; rw [e2, ← e1]; exact hown'
  have hK : KeptF (fun k => v.ownBlock = some k) w w' := (hW.weaken (fun _ _ h => h.elim)).trans (KeptF.of_grown hgr (fun k h _ => h))
  have hb := hk.keep hK hne
  rcases hE.cases with ⟨_, h2⟩ | ⟨g, cap, h1, h2, h3, h4⟩
  · simp at h2
  · have hg : v'.ownBlock = some g := by rw [h1]; rfl
    have hgo : v.ownBlock = some g ∨ w.heap.size ≤ g := by
      rcases hfr g hg with h | h
      · exact .inl h
      · exact .inr (Nat.le_trans hW.size h)
    refine ⟨g, cap, by rw [h1, e2], h2, h3, fun e => ?_, hgo, h4, hb, hK, (hb.cell o).trans ho, hb.frozen o⟩
    subst e
    rcases hgo with h | h
    · exact hne h
    · have := hk.lt; omega

set_option maxRecDepth 100000 in
set_option maxHeartbeats 4000000 in
theorem pushE_any (kb o B Tk : Nat) (c0 : Array Value) (v : Value) (d : List Ent) (x : Ent) (w : World)
    (hk : Blk w kb c0 Tk) (ho : c0[o]? = some v) (hE : ESl w B v d) (hB : B ≤ w.heap.size) (hne : v.ownBlock ≠ some kb) (hn : d.length + 1 ≤ 2932031007317) (hH : HeapL Ent.ltB d) :
    Calls Try.prog 81 #[.pointer (some ⟨kb, o, none⟩), .agg #[.int .i64 x.it.t, .int .i64 x.it.f, .int .i64 x.it.s, .int .i64 x.it.l, .int .i64 x.r]] w fun e w' => e = .returned (.tuple #[]) ∧
      ∃ v' d', Blk w' kb (c0.setIfInBounds o v') Tk ∧ ESl w' B v' d' ∧ d'.Perm (d ++ [x]) ∧ HeapL Ent.ltB d' ∧ KeptF (fun k => k = kb ∨ v.ownBlock = some k) w w' ∧ (∃ g, v'.ownBlock = some g ∧ (v.ownBlock = some g ∨ w.heap.size ≤ g)) := by
  obtain ⟨i0, hi, hz0, hz1, hz2⟩ := info_parts info_ent
  obtain ⟨ao, cap, rfl⟩ := hE.form
  have hc : w.cell? ⟨kb, o, none⟩ = some (.slice ao d.length cap) := (hk.cell o).trans ho
  have hfz : w.frozen? ⟨kb, o, none⟩ = false := hk.frozen o
  have hkl := hk.lt
  have hcells : ∀ o1 : Obj, ∀ j u, (entC x)[j]? = some u → (((w.alloc o1).alloc (.cells #[.int .i64 x.it.t, .int .i64 x.it.f, .int .i64 x.it.s, .int .i64 x.it.l, .int .i64 x.r] 174)).drew).cell? ((⟨w.heap.size + 1, 0, none⟩ : Addr).add j) = some u := by
    intro o1 j u hu
    have hb : Blk ((w.alloc o1).alloc (.cells #[.int .i64 x.it.t, .int .i64 x.it.f, .int .i64 x.it.s, .int .i64 x.it.l, .int .i64 x.r] 174)).drew (w.heap.size + 1) #[.int .i64 x.it.t, .int .i64 x.it.f, .int .i64 x.it.s, .int .i64 x.it.l, .int .i64 x.r] 174 := by
      have := heap_alloc_new (w.alloc o1) (.cells #[.int .i64 x.it.t, .int .i64 x.it.f, .int .i64 x.it.s, .int .i64 x.it.l, .int .i64 x.r] 174)
      rw [World.size_alloc] at this
      exact this
    have ha : ((⟨w.heap.size + 1, 0, none⟩ : Addr).add j) = ⟨w.heap.size + 1, j, none⟩ := by simp [Addr.add]; omega
    rw [ha, hb.cell, ← hu]
    simp [entC]
  have hone : ∀ k : Nat, ∀ u ∈ entC x, u.oneCell' = true := by
    intro _ u hu
    simp only [entC, List.mem_cons, List.not_mem_nil, or_false] at hu
    rcases hu with rfl | rfl | rfl | rfl | rfl <;> rfl
  go_enter Try.func81, Try.ntmps81
  go_wp2
  go_region_law ((
    refine step_append_own rfl (.tmp 7) (.tmp 9) 167 rfl B 174 i0 _ 5 40 Try.underlying167 hi hz0 hz1 hz2 rfl (by decide) (.slice ao d.length cap) d.length (entsC d) (by simp [Act.eval]) ?_ ⟨w.heap.size + 1, 0, none⟩ 1 1 (entC x) (by simp [Act.eval]) rfl ?_ ?_ ?_ ?_ ?_ ?_
    · exact ownsRow_keep hE (F := fun _ => False) (((KeptF.refl _ _).alloc _).alloc _).drew (fun _ _ h => h)
    · exact hcells _
    · exact hone 0
    · unfold maxLen; omega
    · omega
    · exact Nat.le_trans hB (KeptF.size (F := fun _ => False) (((KeptF.refl _ _).alloc _).alloc _).drew)
    intro v' w' hown' hgr hfr
    obtain ⟨g, cap', hv', hBg, hcm, hgk, hgo, hA, hkb', hK', hc', hf'⟩ := grownE hk hown' hgr hfr hne ho (KeptF.drew (KeptF.alloc (KeptF.alloc (KeptF.refl (fun _ => False) w) _) _))
    subst hv'))
  all_goals
    have hb2 := hkb'.set o (.slice (some ⟨g, 0, none⟩) (d.length + 1) cap')
    have hA2 : EArr (w'.setCell ⟨kb, o, none⟩ (.slice (some ⟨g, 0, none⟩) (d.length + 1) cap')) g 174 cap' (d ++ [x]) := hA.keep ((KeptF.refl (fun k => k = kb) _).setCell (p := ⟨kb, o, none⟩) (.inl rfl) _) hgk
    have hc2 : (w'.setCell ⟨kb, o, none⟩ (.slice (some ⟨g, 0, none⟩) (d.length + 1) cap')).cell? ⟨kb, o, none⟩ = some (.slice (some ⟨g, 0, none⟩) (d.length + 1) cap') := World.cell?_setCell_same _ _ _ hc'
    have hK2 : KeptF (fun k => k = kb ∨ (Value.slice ao d.length cap).ownBlock = some k) w (w'.setCell ⟨kb, o, none⟩ (.slice (some ⟨g, 0, none⟩) (d.length + 1) cap')) := (hK'.weaken (fun _ _ h => .inr h)).setCell (p := ⟨kb, o, none⟩) (.inl (.inl rfl)) _
    generalize w'.setCell ⟨kb, o, none⟩ (.slice (some ⟨g, 0, none⟩) (d.length + 1) cap') = w2 at *
    clear hc' hf' hown' hgr hfr hA hkb' hK' hc hfz hcells hone hE hk
    go_wp2
    refine still_tail' 8 (by kernel_rfl) (by kernel_rfl) ?_
    simp only [List.take_succ_cons, List.take_zero, List.drop_succ_cons, List.drop_zero]
    repeat still_step
    refine wpStill_nil ?_
    go_wp2_with fail
    refine (riseE_any g (d.length + 1) cap' 174 d.length (d ++ [x]) _ hA2.drew (by simp) (by omega) hn (RiseInv.push hH x)).mono ?_
    rintro e w3 ⟨rfl, d', hA3, hP, hH', hK3⟩
    go_wp2
    go_end0
    have hl : d'.length = d.length + 1 := by rw [hP.length_eq]; simp
    refine ⟨rfl, .slice (some ⟨g, 0, none⟩) (d.length + 1) cap', d', hb2.drew.keep hK3 (fun e => hgk e.symm), by rw [← hl]; exact ESl.mk hBg hcm hA3, hP, hH', hK2.drew.trans' hK3 (fun i hi e => ?_), g, rfl, hgo⟩
    subst e
    rcases hgo with h | h
    · exact .inr h
    · omega

theorem DSl.form {w : World} {B : Nat} {v : Value} {d : List Dy} (h : DSl w B v d) : ∃ ao cap, v = .slice ao d.length cap := by
  rcases h.cases with ⟨h1, h2⟩ | ⟨g, cap, h1, _⟩
  · subst h2; exact ⟨none, 0, h1⟩
  · exact ⟨_, _, h1⟩

theorem grownD {w W w' : World} {B kb o Tk : Nat} {c0 : Array Value} {v v' : Value} {d : List Dy} {x : Dy} (hk : Blk w kb c0 Tk) (hown' : w'.ownsRow B 170 1 v' (d.length + 1) (dayC d ++ dayC [x])) (hgr : W.grownBy w' v.ownBlock)
    (hfr : ∀ g, v'.ownBlock = some g → v.ownBlock = some g ∨ W.heap.size ≤ g) (hne : v.ownBlock ≠ some kb) (ho : c0[o]? = some v) (hW : KeptF (fun _ => False) w W) :
    ∃ g cap', v' = .slice (some ⟨g, 0, none⟩) (d.length + 1) cap' ∧ B ≤ g ∧ cap' ≤ maxLen ∧ g ≠ kb ∧ (v.ownBlock = some g ∨ w.heap.size ≤ g) ∧ DArr w' g 170 cap' (d ++ [x]) ∧ Blk w' kb c0 Tk ∧ KeptF (fun k => v.ownBlock = some k) w w' ∧ w'.cell? ⟨kb, o, none⟩ = some v ∧ w'.frozen? ⟨kb, o, none⟩ = false := by
  have e1 : dayC d ++ dayC [x] = dayC (d ++ [x]) := by simp [dayC]
  have e2 : (d ++ [x]).length = d.length + 1 := by simp
  have hE : DSl w' B v' (d ++ [x]) := by unfold DSl; rw [e2, ← e1]; exact hown'
  have hK : KeptF (fun k => v.ownBlock = some k) w w' := (hW.weaken (fun _ _ h => h.elim)).trans (KeptF.of_grown hgr (fun k h _ => h))
  have hb := hk.keep hK hne
  rcases hE.cases with ⟨_, h2⟩ | ⟨g, cap, h1, h2, h3, h4⟩
  · simp at h2
  · have hg : v'.ownBlock = some g := by rw [h1]; rfl
    have hgo : v.ownBlock = some g ∨ w.heap.size ≤ g := by
      rcases hfr g hg with h | h
      · exact .inl h
      · exact .inr (Nat.le_trans hW.size h)
    refine ⟨g, cap, by rw [h1, e2], h2, h3, fun e => ?_, hgo, h4, hb, hK, (hb.cell o).trans ho, hb.frozen o⟩
    subst e
    rcases hgo with h | h
    · exact hne h
    · have := hk.lt; omega

theorem Dated.keepF {F : Nat → Prop} {w w' : World} {d : List Dy} (h : Dated w d) (hK : KeptF F w w') (hF : ∀ e ∈ d, ¬ F e.kb) : Dated w' d := by
  intro e he
  rw [hK.cell (block_lt_of_cell (h e he)) (hF e he)]
  exact h e he

set_option maxRecDepth 100000 in
set_option maxHeartbeats 4000000 in
theorem pushD_any (kb o B Tk : Nat) (c0 : Array Value) (v : Value) (d : List Dy) (x : Dy) (w : World)
    (hk : Blk w kb c0 Tk) (ho : c0[o]? = some v) (hE : DSl w B v d) (hB : B ≤ w.heap.size) (hne : v.ownBlock ≠ some kb) (hn : d.length + 1 ≤ 2932031007317) (hH : HeapL Dy.ltB d)
    (hD : Dated w (d ++ [x])) (hx : ∀ e ∈ d ++ [x], e.kb ≠ kb ∧ v.ownBlock ≠ some e.kb) :
    Calls Try.prog 104 #[.pointer (some ⟨kb, o, none⟩), .pointer (some ⟨x.kb, 0, none⟩)] w fun e w' => e = .returned (.tuple #[]) ∧
      ∃ v' d', Blk w' kb (c0.setIfInBounds o v') Tk ∧ DSl w' B v' d' ∧ d'.Perm (d ++ [x]) ∧ HeapL Dy.ltB d' ∧ KeptF (fun k => k = kb ∨ v.ownBlock = some k) w w' ∧ (∃ g, v'.ownBlock = some g ∧ (v.ownBlock = some g ∨ w.heap.size ≤ g)) := by
  obtain ⟨i0, hi, hz0, hz1, hz2⟩ := info_parts info_dayp
  obtain ⟨ao, cap, rfl⟩ := hE.form
  have hc : w.cell? ⟨kb, o, none⟩ = some (.slice ao d.length cap) := (hk.cell o).trans ho
  have hfz : w.frozen? ⟨kb, o, none⟩ = false := hk.frozen o
  have hkl := hk.lt
  have hcells : ∀ j u, (dayC [x])[j]? = some u → (w.alloc (.cells #[.pointer (some ⟨x.kb, 0, none⟩)] 170)).cell? ((⟨w.heap.size, 0, none⟩ : Addr).add j) = some u := by
    intro j u hu
    have hb : Blk (w.alloc (.cells #[.pointer (some ⟨x.kb, 0, none⟩)] 170)) w.heap.size #[.pointer (some ⟨x.kb, 0, none⟩)] 170 := heap_alloc_new w _
    have ha : ((⟨w.heap.size, 0, none⟩ : Addr).add j) = ⟨w.heap.size, j, none⟩ := by simp [Addr.add]; omega
    rw [ha, hb.cell, ← hu]
    simp [dayC]
  have hone : ∀ u ∈ dayC [x], u.oneCell' = true := by
    intro u hu
    simp only [dayC, List.map_cons, List.map_nil, List.mem_cons, List.not_mem_nil, or_false] at hu
    rw [hu]; rfl
  go_enter Try.func104, Try.ntmps104
  go_wp2_with (at_builtin; refine wpList_append_ownX rfl (.tmp 7) (.tmp 9) 116 rfl B 170 i0 _ 1 8 Try.underlying116 hi hz0 hz1 hz2 rfl (by decide) (.slice ao d.length cap) d.length (dayC d) rfl ?own ⟨w.heap.size, 0, none⟩ 1 1 (dayC [x]) rfl rfl ?cells ?one ?b1 ?b2 ?hb ?k)
  case own => exact ownsRow_keep hE (F := fun _ => False) ((KeptF.refl _ _).alloc _) (fun _ _ h => h)
  case cells => exact hcells
  case one => exact hone
  case b1 => unfold maxLen; omega
  case b2 => omega
  case hb => simp; omega
  case k =>
    intro v' w' hown' hgr hfr
    obtain ⟨g, cap', hv', hBg, hcm, hgk, hgo, hA, hkb', hK', hc', hf'⟩ := grownD hk hown' hgr (fun g h => by have := hfr g h; simpa using this) hne ho (KeptF.alloc (KeptF.refl (fun _ => False) w) _)
    subst hv'
    go_wp2
    have hb2 := hkb'.set o (.slice (some ⟨g, 0, none⟩) (d.length + 1) cap')
    have hA2 : DArr (w'.setCell ⟨kb, o, none⟩ (.slice (some ⟨g, 0, none⟩) (d.length + 1) cap')) g 170 cap' (d ++ [x]) := hA.keep ((KeptF.refl (fun k => k = kb) _).setCell (p := ⟨kb, o, none⟩) (.inl rfl) _) hgk
    have hc2 : (w'.setCell ⟨kb, o, none⟩ (.slice (some ⟨g, 0, none⟩) (d.length + 1) cap')).cell? ⟨kb, o, none⟩ = some (.slice (some ⟨g, 0, none⟩) (d.length + 1) cap') := World.cell?_setCell_same _ _ _ hc'
    have hK2 : KeptF (fun k => k = kb ∨ (Value.slice ao d.length cap).ownBlock = some k) w (w'.setCell ⟨kb, o, none⟩ (.slice (some ⟨g, 0, none⟩) (d.length + 1) cap')) := (hK'.weaken (fun _ _ h => .inr h)).setCell (p := ⟨kb, o, none⟩) (.inl (.inl rfl)) _
    have hD2 := hD.keepF hK2 (fun e he h => by rcases h with h | h; exact (hx e he).1 h; exact (hx e he).2 h)
    have hg2 : ∀ e ∈ d ++ [x], e.kb ≠ g := by
      intro e he h
      rcases hgo with h1 | h1
      · exact (hx e he).2 (by rw [h]; exact h1)
      · have := block_lt_of_cell (hD e he)
        simp at this
        omega
    generalize w'.setCell ⟨kb, o, none⟩ (.slice (some ⟨g, 0, none⟩) (d.length + 1) cap') = w2 at *
    clear hc' hf' hown' hgr hfr hA hkb' hK' hc hfz hcells hone hE hk hD
    refine still_tail' 8 (by kernel_rfl) (by kernel_rfl) ?_
    simp only [List.take_succ_cons, List.take_zero, List.drop_succ_cons, List.drop_zero]
    repeat still_step
    refine wpStill_nil ?_
    go_wp2_with fail
    refine (riseD_any g (d.length + 1) cap' 170 d.length (d ++ [x]) _ hA2.drew hD2 hg2 (by simp) (by omega) hn (RiseInv.push hH x)).mono ?_
    rintro e w3 ⟨rfl, d', hA3, hP, hH', hK3⟩
    go_wp2
    go_end0
    have hl : d'.length = d.length + 1 := by rw [hP.length_eq]; simp
    refine ⟨rfl, .slice (some ⟨g, 0, none⟩) (d.length + 1) cap', d', hb2.drew.keep hK3 (fun e => hgk e.symm), by rw [← hl]; exact DSl.mk hBg hcm hA3, hP, hH', hK2.drew.trans' hK3 (fun i hi e => ?_), g, rfl, hgo⟩
    subst e
    rcases hgo with h | h
    · exact .inr h
    · omega

end Go.Proofs.Ytaieackeflmhgaa

