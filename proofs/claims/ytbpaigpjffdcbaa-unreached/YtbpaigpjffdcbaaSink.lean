/-
  The walks of sink: at entries, at days.
-/
import Derived.Test.YtbpaigpjffdcbaaRise
namespace Go.Proofs.Ytbpaigpjffdcbaa
open Go.RowKit Go.Sort

/-- what the inner loop of sink has found: m is the least of i and those children that were looked at (below bl) -/
structure Found {α : Type} (lt : α → α → Bool) (d : List α) (n i m bl : Nat) : Prop where
  lo : 2 * i + 1 ≤ bl
  hi : bl ≤ 2 * i + 3
  at_ : m = i ∨ (2 * i + 1 ≤ m ∧ m < bl ∧ m < n)
  least : ∀ (k : Nat) (a x : α), (k = i ∨ (2 * i + 1 ≤ k ∧ k < bl)) → d[k]? = some a → d[m]? = some x → lt a x = false
  less : ∀ (a x : α), m ≠ i → d[m]? = some a → d[i]? = some x → lt a x = true

theorem Found.start {α : Type} {lt : α → α → Bool} (O : Orderly lt) (d : List α) (n i : Nat) : Found lt d n i i (2 * i + 1) :=
  ⟨by omega, by omega, .inl rfl, fun k a x hk ha hx => by
    rcases hk with hk | hk
    · subst hk; rw [ha] at hx; cases hx; exact O.irrefl _
    · omega, fun a x h => absurd rfl h⟩

/-- the element at bl is not less -/
theorem Found.stay {α : Type} {lt : α → α → Bool} {d : List α} {n i m bl : Nat} {x y : α} (h : Found lt d n i m bl) (hb : bl ≤ 2 * i + 2) (hx : d[bl]? = some x) (hy : d[m]? = some y) (hl : lt x y = false) :
    Found lt d n i m (bl + 1) := by
  refine ⟨by have := h.lo; omega, by omega, by rcases h.at_ with h' | h'; exact .inl h'; exact .inr ⟨h'.1, by omega, h'.2.2⟩, fun k a z hk ha hz => ?_, h.less⟩
  by_cases hkb : k = bl
  · subst hkb
    rw [hx] at ha; rw [hy] at hz
    cases ha; cases hz; exact hl
  · exact h.least k a z (by omega) ha hz

/-- the element at bl is less -/
theorem Found.turn {α : Type} {lt : α → α → Bool} (O : Orderly lt) {d : List α} {n i m bl : Nat} {x y : α} (h : Found lt d n i m bl) (hb : bl ≤ 2 * i + 2) (hbn : bl < n) (hx : d[bl]? = some x) (hy : d[m]? = some y) (hl : lt x y = true) :
    Found lt d n i bl (bl + 1) := by
  refine ⟨by have := h.lo; omega, by omega, .inr ⟨h.lo, by omega, hbn⟩, fun k a z hk ha hz => ?_, fun a z hne ha hz => ?_⟩
  · rw [hx] at hz; cases hz
    by_cases hkb : k = bl
    · subst hkb; rw [hx] at ha; cases ha; exact O.irrefl _
    · exact O.ntrans x y a (O.asymm x y hl) (h.least k a y (by omega) ha hy)
  · rw [hx] at ha; cases ha
    -- x < y, y is not more than d[i]
    have h1 := h.least i z y (.inl rfl) hz hy
    cases h2 : lt x z with
    | true => rfl
    | false =>
      have := O.ntrans y z x h1 h2
      rw [hl] at this; cases this

theorem Found.doneEq {α : Type} {lt : α → α → Bool} {d : List α} {n i bl : Nat} (h : Found lt d n i i bl) (hn : d.length = n) (hb : ¬ (bl ≤ 2 * i + 2 ∧ bl < n)) (hS : SinkInv lt d i) : HeapL lt d := by
  refine hS.done (fun k a x hk hp ha hx => h.least k a x ?_ ha hx)
  have := get_lt ha
  have := h.lo
  have := h.hi
  omega

theorem Found.minChild {α : Type} {lt : α → α → Bool} {d : List α} {n i m bl : Nat} {y : α} (h : Found lt d n i m bl) (hn : d.length = n) (hb : ¬ (bl ≤ 2 * i + 2 ∧ bl < n)) (hy : d[m]? = some y) :
    ∀ k a, 0 < k → (k - 1) / 2 = i → d[k]? = some a → lt a y = false := by
  intro k a hk hp ha
  have := get_lt ha
  have := h.lo
  have := h.hi
  exact h.least k a y (by omega) ha hy

set_option maxRecDepth 100000 in
set_option maxHeartbeats 8000000 in
theorem sinkE_any (b n cap T : Nat) (d : List Ent) (w : World) (hA : EArr w b T cap d) (hd : d.length = n) (hn : n ≤ 2932031007317) (hI : SinkInv Ent.ltB d 0) :
    Calls Try.prog 84 #[.slice (some ⟨b, 0, none⟩) n cap, .int .i64 0] w fun e w' => e = .returned (.tuple #[]) ∧ ∃ d', EArr w' b T cap d' ∧ d'.Perm d ∧ HeapL Ent.ltB d' ∧ KeptF (· = b) w w' := by
  have hm := method_ent
  go_enter Try.func84, Try.ntmps84
  go_wp2
  go_loopw [1] (fun si wr => ∃ (i : Nat) (dk : List Ent), si = .int .i64 i ∧ i ≤ n ∧ (i < n ∨ n = 0) ∧ Hid (dk.length = n) ∧ EArr wr b T cap dk ∧ dk.Perm d ∧ SinkInv Ent.ltB dk i ∧ KeptF (· = b) w wr) (fun si _ => n - (intOf si).toNat)
  case atStart => exact ⟨0, d, rfl, by omega, by omega, hd, hA, List.Perm.refl _, hI, KeptF.refl _ _⟩
  case round =>
    obtain ⟨i, dk, rfl, hin, hin', HL, hE, hP, hS, hK⟩ := hrel
    obtain ⟨w1, hw1⟩ : ∃ w1, w1 = wr := ⟨_, rfl⟩
    subst hw1
    clear hA hI hd
    go_wp2
    go_loopw [4, 5] (fun sl sb w2 => ∃ (m bl : Nat), sl = .int .i64 m ∧ sb = .int .i64 bl ∧ m ≤ 2 * i + 2 ∧ 2 * i + 1 ≤ bl ∧ bl ≤ 2 * i + 3 ∧ Found Ent.ltB dk n i m bl ∧ Below w1.heap.size w1 w2) (fun _ sb _ => 2 * i + 3 - (intOf sb).toNat)
    case atStart => exact ⟨i, 2 * i + 1, rfl, by go_num, by omega, by omega, by omega, Found.start Ent.orderly dk n i, Below.refl _ _⟩
    case round =>
      obtain ⟨m, bl, rfl, rfl, hm2, hbl, hbh, hF, hB2⟩ := hrel
      obtain ⟨w2, hw2⟩ : ∃ w2, w2 = wr := ⟨_, rfl⟩
      subst hw2
      have hE2 : EArr w2 b T cap dk := hE.keep (KeptF.of_below (F := fun _ => False) hB2) (fun h => h)
      by_cases c1 : bl ≤ 2 * i + 2
      · by_cases c2 : bl < n
        · have hmn : m < n := by rcases hF.at_ with h | h <;> omega
          obtain ⟨x, hx⟩ := get_of_lt (d := dk) (k := bl) (by have := HL.out; omega)
          obtain ⟨y, hy⟩ := get_of_lt (d := dk) (k := m) (by have := HL.out; omega)
          obtain ⟨c0, c1', c2', c3, c4⟩ := hE2.cells hx
          obtain ⟨d0, d1, d2, d3, d4⟩ := hE2.cells hy
          have Hx : Hid (dk[bl]? = some x) := hx
          have Hy : Hid (dk[m]? = some y) := hy
          clear hx hy
          have k0 := cell_regrown c0
          have k1 := cell_regrown c1'
          have k2 := cell_regrown c2'
          have k3 := cell_regrown c3
          have k4 := cell_regrown c4
          have l0 := cell_regrown d0
          have l1 := cell_regrown d1
          have l2 := cell_regrown d2
          have l3 := cell_regrown d3
          have l4 := cell_regrown d4
          cases hv : x.ltB y with
          | false =>
            have Hv : Hid (x.ltB y = false) := hv
            have hcall := before_grown x y w2 false hv
            clear hv
            go_wp2
            refine wp_region_quiet_below (by kernel_rfl) (by kernel_rfl) ?_
            repeat (quiet_step (exact hcall _))
            refine wpQuiet_nil ?_
            intro wq hw'
            have hbl := below_of_regrown hw'
            clear hw' k0 k1 k2 k3 k4 l0 l1 l2 l3 l4 c0 c1' c2' c3 c4 d0 d1 d2 d3 d4 hcall hm
            go_wp2
            go_roundw
            case rel => exact ⟨m, bl + 1, rfl, by go_num, hm2, by omega, by omega, hF.stay c1 Hx.out Hy.out Hv.out, hB2.trans (hbl.mono hB2.size)⟩
            case measure => simp [intOf]; omega
          | true =>
            have Hv : Hid (x.ltB y = true) := hv
            have hcall := before_grown x y w2 true hv
            clear hv
            go_wp2
            refine wp_region_quiet_below (by kernel_rfl) (by kernel_rfl) ?_
            repeat (quiet_step (exact hcall _))
            refine wpQuiet_nil ?_
            intro wq hw'
            have hbl := below_of_regrown hw'
            clear hw' k0 k1 k2 k3 k4 l0 l1 l2 l3 l4 c0 c1' c2' c3 c4 d0 d1 d2 d3 d4 hcall hm
            go_wp2
            go_roundw
            case rel => exact ⟨bl, bl + 1, rfl, by go_num, by omega, by omega, by omega, hF.turn Ent.orderly c1 c2 Hx.out Hy.out Hv.out, hB2.trans (hbl.mono hB2.size)⟩
            case measure => simp [intOf]; omega
        · have hout : ¬ (bl ≤ 2 * i + 2 ∧ bl < n) := fun h => c2 h.2
          by_cases hmi : m = i
          · subst hmi
            go_wp2
            exact bodyPost_ret (results_none rfl _ _ _) rfl ⟨rfl, dk, hE2, hP, hF.doneEq HL.out hout hS, hK.trans (KeptF.of_below hB2)⟩
          · have hmi' : ((m : Int) == (i : Int)) = false := beq_eq_false_iff_ne.2 (by omega)
            have hat : 2 * i + 1 ≤ m ∧ m < bl ∧ m < n := by rcases hF.at_ with h | h; exact absurd h hmi; exact h
            have hmn : m < n := hat.2.2
            have him : i < m := by omega
            have hin2 : i < n := by omega
            obtain ⟨x, hx⟩ := get_of_lt (d := dk) (k := i) (by have := HL.out; omega)
            obtain ⟨y, hy⟩ := get_of_lt (d := dk) (k := m) (by have := HL.out; omega)
            obtain ⟨c0, c1', c2', c3, c4⟩ := hE2.cells hx
            obtain ⟨d0, d1, d2, d3, d4⟩ := hE2.cells hy
            have Hx : Hid (dk[i]? = some x) := hx
            have Hy : Hid (dk[m]? = some y) := hy
            clear hx hy hm
            have hz := hE2.frozen
            go_wp2
            go_region
            go_wp2
            clear c0 c1' c2' c3 c4 d0 d1 d2 d3 d4 hz
            go_roundw
            case rel =>
              refine ⟨m, swapL dk i m x y, by go_num, by omega, .inl hmn, (swapL_length dk i m x y).trans HL.out, (hE2.swap Hx.out Hy.out).drew, (swapL_perm dk i m x y (by omega) Hx.out Hy.out).trans hP, hS.step Ent.orderly (by omega) (by omega) Hx.out Hy.out (hF.less y x hmi Hy.out Hx.out) (hF.minChild HL.out hout Hy.out), ?_⟩
              exact ((((hK.trans (KeptF.of_below hB2))).setEnt (.inl rfl) i y).setEnt (.inl rfl) m x).drew
            case measure => simp [intOf]; omega
      · have hout : ¬ (bl ≤ 2 * i + 2 ∧ bl < n) := fun h => c1 h.1
        have c1d : decide ((bl : Int) ≤ 2 * (i : Int) + 2) = false := decide_eq_false (by omega)
        by_cases hmi : m = i
        · subst hmi
          go_wp2
          exact bodyPost_ret (results_none rfl _ _ _) rfl ⟨rfl, dk, hE2, hP, hF.doneEq HL.out hout hS, hK.trans (KeptF.of_below hB2)⟩
        · have hmi' : ((m : Int) == (i : Int)) = false := beq_eq_false_iff_ne.2 (by omega)
          have hat : 2 * i + 1 ≤ m ∧ m < bl ∧ m < n := by rcases hF.at_ with h | h; exact absurd h hmi; exact h
          have hmn : m < n := hat.2.2
          have him : i < m := by omega
          have hin2 : i < n := by omega
          obtain ⟨x, hx⟩ := get_of_lt (d := dk) (k := i) (by have := HL.out; omega)
          obtain ⟨y, hy⟩ := get_of_lt (d := dk) (k := m) (by have := HL.out; omega)
          obtain ⟨c0, c1', c2', c3, c4⟩ := hE2.cells hx
          obtain ⟨d0, d1, d2, d3, d4⟩ := hE2.cells hy
          have Hx : Hid (dk[i]? = some x) := hx
          have Hy : Hid (dk[m]? = some y) := hy
          clear hx hy hm
          have hz := hE2.frozen
          go_wp2
          go_region
          go_wp2
          clear c0 c1' c2' c3 c4 d0 d1 d2 d3 d4 hz
          go_roundw
          case rel =>
            refine ⟨m, swapL dk i m x y, by go_num, by omega, .inl hmn, (swapL_length dk i m x y).trans HL.out, (hE2.swap Hx.out Hy.out).drew, (swapL_perm dk i m x y (by omega) Hx.out Hy.out).trans hP, hS.step Ent.orderly (by omega) (by omega) Hx.out Hy.out (hF.less y x hmi Hy.out Hx.out) (hF.minChild HL.out hout Hy.out), ?_⟩
            exact ((((hK.trans (KeptF.of_below hB2))).setEnt (.inl rfl) i y).setEnt (.inl rfl) m x).drew
          case measure => simp [intOf]; omega

set_option maxRecDepth 100000 in
set_option maxHeartbeats 8000000 in
theorem sinkD_any (b n cap T : Nat) (d : List Dy) (w : World) (hA : DArr w b T cap d) (hD : Dated w d) (hB : ∀ e ∈ d, e.kb ≠ b) (hd : d.length = n) (hn : n ≤ 2932031007317) (hI : SinkInv Dy.ltB d 0) :
    Calls Try.prog 85 #[.slice (some ⟨b, 0, none⟩) n cap, .int .i64 0] w fun e w' => e = .returned (.tuple #[]) ∧ ∃ d', DArr w' b T cap d' ∧ d'.Perm d ∧ HeapL Dy.ltB d' ∧ KeptF (· = b) w w' := by
  have hm := method_day
  go_enter Try.func85, Try.ntmps85
  go_wp2
  go_loopw [1] (fun si wr => ∃ (i : Nat) (dk : List Dy), si = .int .i64 i ∧ i ≤ n ∧ (i < n ∨ n = 0) ∧ Hid (dk.length = n) ∧ DArr wr b T cap dk ∧ dk.Perm d ∧ SinkInv Dy.ltB dk i ∧ KeptF (· = b) w wr) (fun si _ => n - (intOf si).toNat)
  case atStart => exact ⟨0, d, rfl, by omega, by omega, hd, hA, List.Perm.refl _, hI, KeptF.refl _ _⟩
  case round =>
    obtain ⟨i, dk, rfl, hin, hin', HL, hE, hP, hS, hK⟩ := hrel
    obtain ⟨w1, hw1⟩ : ∃ w1, w1 = wr := ⟨_, rfl⟩
    subst hw1
    have hDk := hD.keep hB hP hK
    clear hA hI hd hD hB
    go_wp2
    go_loopw [4, 5] (fun sl sb w2 => ∃ (m bl : Nat), sl = .int .i64 m ∧ sb = .int .i64 bl ∧ m ≤ 2 * i + 2 ∧ 2 * i + 1 ≤ bl ∧ bl ≤ 2 * i + 3 ∧ Found Dy.ltB dk n i m bl ∧ Below w1.heap.size w1 w2) (fun _ sb _ => 2 * i + 3 - (intOf sb).toNat)
    case atStart => exact ⟨i, 2 * i + 1, rfl, by go_num, by omega, by omega, by omega, Found.start Dy.orderly dk n i, Below.refl _ _⟩
    case round =>
      obtain ⟨m, bl, rfl, rfl, hm2, hbl, hbh, hF, hB2⟩ := hrel
      obtain ⟨w2, hw2⟩ : ∃ w2, w2 = wr := ⟨_, rfl⟩
      subst hw2
      have hE2 : DArr w2 b T cap dk := hE.keep (KeptF.of_below (F := fun _ => False) hB2) (fun h => h)
      by_cases c1 : bl ≤ 2 * i + 2
      · by_cases c2 : bl < n
        · have hmn : m < n := by rcases hF.at_ with h | h <;> omega
          obtain ⟨x, hx⟩ := get_of_lt (d := dk) (k := bl) (by have := HL.out; omega)
          obtain ⟨y, hy⟩ := get_of_lt (d := dk) (k := m) (by have := HL.out; omega)
          have c0 := hE2.cells hx
          have d0 := hE2.cells hy
          have Hx : Hid (dk[bl]? = some x) := hx
          have Hy : Hid (dk[m]? = some y) := hy
          clear hx hy
          have k0 := cell_regrown c0
          have l0 := cell_regrown d0
          have c1' : w2.cell? ⟨x.kb, 0, none⟩ = some (.int .i64 x.date) := by rw [hB2.cell (block_lt_of_cell (hDk x (List.mem_of_getElem? Hx.out)))]; exact hDk x (List.mem_of_getElem? Hx.out)
          have d1 : w2.cell? ⟨y.kb, 0, none⟩ = some (.int .i64 y.date) := by rw [hB2.cell (block_lt_of_cell (hDk y (List.mem_of_getElem? Hy.out)))]; exact hDk y (List.mem_of_getElem? Hy.out)
          cases hv : x.ltB y with
          | false =>
            have Hv : Hid (x.ltB y = false) := hv
            have hcall := dayBefore_grown x y w2 false hv c1' d1
            clear hv
            go_wp2
            refine wp_region_quiet_below (by kernel_rfl) (by kernel_rfl) ?_
            repeat (quiet_step (exact hcall _))
            refine wpQuiet_nil ?_
            intro wq hw'
            have hbl := below_of_regrown hw'
            clear hw' k0 l0 c0 c1' d0 d1 hcall hm
            go_wp2
            go_roundw
            case rel => exact ⟨m, bl + 1, rfl, by go_num, hm2, by omega, by omega, hF.stay c1 Hx.out Hy.out Hv.out, hB2.trans (hbl.mono hB2.size)⟩
            case measure => simp [intOf]; omega
          | true =>
            have Hv : Hid (x.ltB y = true) := hv
            have hcall := dayBefore_grown x y w2 true hv c1' d1
            clear hv
            go_wp2
            refine wp_region_quiet_below (by kernel_rfl) (by kernel_rfl) ?_
            repeat (quiet_step (exact hcall _))
            refine wpQuiet_nil ?_
            intro wq hw'
            have hbl := below_of_regrown hw'
            clear hw' k0 l0 c0 c1' d0 d1 hcall hm
            go_wp2
            go_roundw
            case rel => exact ⟨bl, bl + 1, rfl, by go_num, by omega, by omega, by omega, hF.turn Dy.orderly c1 c2 Hx.out Hy.out Hv.out, hB2.trans (hbl.mono hB2.size)⟩
            case measure => simp [intOf]; omega
        · have hout : ¬ (bl ≤ 2 * i + 2 ∧ bl < n) := fun h => c2 h.2
          by_cases hmi : m = i
          · subst hmi
            go_wp2
            exact bodyPost_ret (results_none rfl _ _ _) rfl ⟨rfl, dk, hE2, hP, hF.doneEq HL.out hout hS, hK.trans (KeptF.of_below hB2)⟩
          · have hmi' : ((m : Int) == (i : Int)) = false := beq_eq_false_iff_ne.2 (by omega)
            have hat : 2 * i + 1 ≤ m ∧ m < bl ∧ m < n := by rcases hF.at_ with h | h; exact absurd h hmi; exact h
            have hmn : m < n := hat.2.2
            have him : i < m := by omega
            have hin2 : i < n := by omega
            obtain ⟨x, hx⟩ := get_of_lt (d := dk) (k := i) (by have := HL.out; omega)
            obtain ⟨y, hy⟩ := get_of_lt (d := dk) (k := m) (by have := HL.out; omega)
            have c0 := hE2.cells hx
            have d0 := hE2.cells hy
            have Hx : Hid (dk[i]? = some x) := hx
            have Hy : Hid (dk[m]? = some y) := hy
            clear hx hy hm
            have hz := hE2.frozen
            go_wp2
            go_region
            go_wp2
            clear c0 d0 hz
            go_roundw
            case rel =>
              refine ⟨m, swapL dk i m x y, by go_num, by omega, .inl hmn, (swapL_length dk i m x y).trans HL.out, (hE2.swap Hx.out Hy.out).drew, (swapL_perm dk i m x y (by omega) Hx.out Hy.out).trans hP, hS.step Dy.orderly (by omega) (by omega) Hx.out Hy.out (hF.less y x hmi Hy.out Hx.out) (hF.minChild HL.out hout Hy.out), ?_⟩
              exact ((((hK.trans (KeptF.of_below hB2))).setCell (p := ⟨b, i, none⟩) (.inl rfl) _).setCell (p := ⟨b, m, none⟩) (.inl rfl) _).drew
            case measure => simp [intOf]; omega
      · have hout : ¬ (bl ≤ 2 * i + 2 ∧ bl < n) := fun h => c1 h.1
        have c1d : decide ((bl : Int) ≤ 2 * (i : Int) + 2) = false := decide_eq_false (by omega)
        by_cases hmi : m = i
        · subst hmi
          go_wp2
          exact bodyPost_ret (results_none rfl _ _ _) rfl ⟨rfl, dk, hE2, hP, hF.doneEq HL.out hout hS, hK.trans (KeptF.of_below hB2)⟩
        · have hmi' : ((m : Int) == (i : Int)) = false := beq_eq_false_iff_ne.2 (by omega)
          have hat : 2 * i + 1 ≤ m ∧ m < bl ∧ m < n := by rcases hF.at_ with h | h; exact absurd h hmi; exact h
          have hmn : m < n := hat.2.2
          have him : i < m := by omega
          have hin2 : i < n := by omega
          obtain ⟨x, hx⟩ := get_of_lt (d := dk) (k := i) (by have := HL.out; omega)
          obtain ⟨y, hy⟩ := get_of_lt (d := dk) (k := m) (by have := HL.out; omega)
          have c0 := hE2.cells hx
          have d0 := hE2.cells hy
          have Hx : Hid (dk[i]? = some x) := hx
          have Hy : Hid (dk[m]? = some y) := hy
          clear hx hy hm
          have hz := hE2.frozen
          go_wp2
          go_region
          go_wp2
          clear c0 d0 hz
          go_roundw
          case rel =>
            refine ⟨m, swapL dk i m x y, by go_num, by omega, .inl hmn, (swapL_length dk i m x y).trans HL.out, (hE2.swap Hx.out Hy.out).drew, (swapL_perm dk i m x y (by omega) Hx.out Hy.out).trans hP, hS.step Dy.orderly (by omega) (by omega) Hx.out Hy.out (hF.less y x hmi Hy.out Hx.out) (hF.minChild HL.out hout Hy.out), ?_⟩
            exact ((((hK.trans (KeptF.of_below hB2))).setCell (p := ⟨b, i, none⟩) (.inl rfl) _).setCell (p := ⟨b, m, none⟩) (.inl rfl) _).drew
          case measure => simp [intOf]; omega


end Go.Proofs.Ytbpaigpjffdcbaa
