/-
  The law Known: true, whatever the model and the steps.
-/
import Derived.Test.YtkobkilfbbalaaaK17
namespace Go.Proofs.Ytkobkilfbbalaaa
open Go.RowKit Go.Sort Go.Maps

def upD (l : List Dn) (t : Int) : Nat := (l.filter (fun d => decide (d.it.t ≤ t))).length
theorem upD_snoc (l : List Dn) (x : Dn) (t : Int) : upD (l ++ [x]) t = upD l t + (if x.it.t ≤ t then 1 else 0) := by
  unfold upD
  rw [List.filter_append, List.length_append]
  by_cases h : x.it.t ≤ t <;> simp [h]
theorem upD_le (l : List Dn) (t : Int) : upD l t ≤ l.length := List.length_filter_le _ _

set_option maxRecDepth 100000 in
set_option maxHeartbeats 2000000 in
theorem beforeN_any (w : World) (B : Nat) (v : Value) (l : List Dn) (t : Int) (h : RowsAt 5 dnC w B v l) (hl : l.length ≤ 5000) :
    Calls Try.prog 41 #[v, .int .i64 t] w fun e w' => e = .returned (.int .i64 (upD l t : Int)) ∧ Below w.heap.size w w' := by
  obtain ⟨ao, cap, rfl, hcap⟩ := RowsAt.form h
  go_enter Try.func41, Try.ntmps41
  go_wp2
  go_loopw [5, 6] (fun s5 s6 wr => ∃ i : Nat, s5 = .int .i64 (upD (l.take i) t : Int) ∧ s6 = .int .i64 i ∧ i ≤ l.length ∧ wr = w) (fun _ s6 _ => l.length - (intOf s6).toNat)
  case atStart => exact ⟨0, by simp [upD], rfl, Nat.zero_le _, rfl⟩
  case round =>
    obtain ⟨i, rfl, rfl, hi, hwr⟩ := hrel
    subst hwr
    by_cases hlt : i < l.length
    · obtain ⟨x, hx⟩ := get_of_lt hlt
      obtain ⟨b, off, hao, hbB, hc⟩ := RowsAt.at_ h hx
      subst hao
      have x0 := hc 0 (.int .i64 x.it.t) rfl
      simp only [Nat.add_zero] at x0
      have hlb : b < wr.heap.size := block_lt_of_cell x0
      have hil : (i : Int) < l.length := by omega
      have Hup : Hid (upD (l.take (i + 1)) t = upD (l.take i) t + (if x.it.t ≤ t then 1 else 0)) := by show _ = _; rw [List.take_add_one, hx]; exact upD_snoc _ _ _
      obtain ⟨u, hu⟩ : ∃ u, u = upD (l.take i) t := ⟨_, rfl⟩
      have hul : u ≤ 5000 := by have := upD_le (l.take i) t; rw [List.length_take] at this; omega
      rw [← hu] at Hup ⊢
      clear hx hc hu
      by_cases hle : x.it.t ≤ t
      · have Hup2 : Hid (upD (l.take (i + 1)) t = u + 1) := by show _ = _; rw [Hup.out, if_pos hle]
        go_wp2
        go_roundw
        case rel => exact ⟨i + 1, by rw [Hup2.out]; go_num, by go_num, hlt, trivial⟩
        case measure => simp [intOf]; omega
      · have Hup2 : Hid (upD (l.take (i + 1)) t = u) := by show _ = _; rw [Hup.out, if_neg hle]; rfl
        go_wp2
        go_roundw
        case rel => exact ⟨i + 1, by rw [Hup2.out], by go_num, hlt, trivial⟩
        case measure => simp [intOf]; omega
    · have hie : i = l.length := by omega
      subst hie
      rw [List.take_of_length_le (Nat.le_refl _)]
      go_wp2
      go_ret
      exact ⟨rfl, Below.refl _ _⟩

theorem upD_hist (m : Mdl) (q : Int) (l : List It) (t : Int) : upD (hist m q l) t = upTo l t := by
  unfold upD upTo
  conv => rhs; rw [← hist_items m q l, List.filter_map, List.length_map]
  rfl

set_option maxRecDepth 100000 in
set_option maxHeartbeats 16000000 in
theorem knownAt_any (w : World) (lo hi cb db kb : Nat) (lv rv sv : Value) (m : Mdl) (en : Int) (k : Nat) (D C : List Value) (N : Nat → Nat) (s : NS) (B : Nat) (dv : Value) (T : Tells m en k) (hG : NInv m en (FK m en k) N s) (hC : CRd w lo hi cb db kb lv rv sv m D C (atK m en k)) (hL : LinksAt w w.heap.size lv m.links) (hO : Own inE w B dv ((List.range (np m)).map (fun p => (N p : Int)))) :
    Calls Try.prog 21 #[.pointer (some ⟨cb, 0, none⟩), dv] w fun e w' => e = .returned (.bool true) ∧ Below w.heap.size w w' := by
  have hp1 := T.hm.lim.p1
  have hp2 := T.hm.lim.p2
  have E := T.env
  obtain ⟨n, hn⟩ : ∃ n : Nat, n = np m := ⟨_, rfl⟩
  have Hnp : Hid (np m = n) := hn.symm
  have hn6 : n ≤ 6 := by rw [hn]; unfold np; omega
  have hn1 : 1 ≤ n := by rw [hn]; unfold np; omega
  obtain ⟨ao1, cap1, hlv, hcap1⟩ := RowsAt.form hL
  subst hlv
  obtain ⟨cc, hcb, hc0, hc3, hc9, hc10, hc11⟩ := hC.blk
  have c3 : w.cell? ⟨cb, 3, none⟩ = some (.slice ao1 m.links.length cap1) := by rw [hcb.cell, hc3]
  have c9 : w.cell? ⟨cb, 9, none⟩ = some (.slice (some ⟨db, 0, none⟩) n n) := by rw [hcb.cell, hc9, hn]
  have c10 : w.cell? ⟨cb, 10, none⟩ = some (.slice (some ⟨kb, 0, none⟩) n n) := by rw [hcb.cell, hc10, hn]
  have hlc := hcb.lt
  have hld := hC.dn.lt
  have hlk := hC.ca.lt
  have hlen : ((List.range (np m)).map (fun p => (N p : Int))).length = n := by simp [hn]
  have hx0 : ∀ p, p < n → ((List.range (np m)).map (fun p => (N p : Int)))[p]? = some (N p : Int) := fun p hp => by rw [List.getElem?_map, List.getElem?_range (by rw [← hn]; exact hp)]; rfl
  obtain ⟨g, cg, hdv, _⟩ := Own.at_ hO (hx0 0 (by omega))
  rw [hlen] at hdv
  have dc : ∀ p, p < n → w.cell? ⟨g, p, none⟩ = some (.int .i64 (N p : Int)) := fun p hp => by
    obtain ⟨g', cg', hdv', _⟩ := Own.at_ hO (hx0 p hp)
    rw [hlen, hdv] at hdv'
    simp only [Value.slice.injEq] at hdv'
    have e1 := hdv'.1
    injection e1 with e1
    injection e1 with e1
    subst e1
    subst hdv
    have := hO.cell (hx0 p hp) (k := 0) (u := .int .i64 (N p : Int)) rfl
    simpa [inE] using this
  have hlg : g < w.heap.size := block_lt_of_cell (dc 0 (by omega))
  subst hdv
  have row : ∀ p, p < n → ∃ au cu, w.cell? ⟨db, p, none⟩ = some (.slice au (FK m en k p).length cu) ∧ RowsAt 5 dnC w w.heap.size (.slice au (FK m en k p).length cu) (hist m (p : Int) (FK m en k p)) := fun p hp => by
    have hpn : p < np m := by rw [← hn]; exact hp
    obtain ⟨u, hu⟩ := get_of_lt (d := D) (k := p) (by rw [hC.dl]; exact hpn)
    have hru := (hC.dns p u _ hu (T.hist hpn)).at hC.hi
    obtain ⟨au, cu, huf, _⟩ := RowsAt.form hru
    rw [hist_length] at huf
    subst huf
    exact ⟨au, cu, by rw [hC.dn.cell, List.getElem?_toArray, hu], hru⟩
  have cow : ∀ p, p < n → ∃ au cu, w.cell? ⟨kb, p, none⟩ = some (.slice au (FK m en k p).length cu) ∧ RowsAt 1 intC w w.heap.size (.slice au (FK m en k p).length cu) (CK m en k p) := fun p hp => by
    have hpn : p < np m := by rw [← hn]; exact hp
    obtain ⟨u, hu⟩ := get_of_lt (d := C) (k := p) (by rw [hC.cl]; exact hpn)
    obtain ⟨l, hl⟩ := get_of_lt (d := (atK m en k).causes) (k := p) (by rw [(atK_inv T.hm T.hen k).lc]; exact hpn)
    have hCK : CK m en k p = l := by unfold CK; rw [List.getD_eq_getElem?_getD, hl]; rfl
    have hru := (hC.cas p u l hu hl).at hC.hi
    obtain ⟨au, cu, huf, _⟩ := RowsAt.form hru
    rw [← hCK, E.hF.len p hpn] at huf
    subst huf
    exact ⟨au, cu, by rw [hC.ca.cell, List.getElem?_toArray, hu], by rw [hCK]; exact hru⟩
  have flen : ∀ p, p < n → (FK m en k p).length ≤ 300 := fun p hp => by
    have := sumN_ge (l := (List.range (np m)).map (fun p => (FK m en k p).length)) (i := p) (x := (FK m en k p).length) (by rw [List.getElem?_map, List.getElem?_range (by rw [← hn]; exact hp)]; rfl)
    exact Nat.le_trans this E.tot
  have frm : ∀ (p i : Nat) (x : It), p < n → i < N p → (FK m en k p)[i]? = some x → x.f < 0 ∨ ∃ q j : Nat, q < n ∧ x.f = (q : Int) ∧ (CK m en k p)[i]? = some (j : Int) ∧ j < N q := fun p i x hp hi hx => by
    have hpn : p < np m := by rw [← hn]; exact hp
    obtain ⟨y, hy, hyp, hyx, -⟩ := E.hF.com p i x hpn hx
    rcases gen_from hy with h1 | ⟨q, hq, h1, -⟩
    · left; rw [← hyx, h1]; decide
    · right
      obtain ⟨j, hj1, hj2⟩ := hG.cause E.hF hpn hi hx (q := q) (by rw [← hyx]; exact h1)
      exact ⟨q, j, by rw [hn]; exact hq, by rw [← hyx]; exact h1, hj1, hj2⟩
  have kno : ∀ (p i : Nat) (x : It), p < n → i < N p → (FK m en k p)[i]? = some x → ∀ z ∈ m.links, z.t = (p : Int) → upD (hist m z.f (FK m en k z.f.toNat)) (x.t - z.a) ≤ N z.f.toNat := fun p i x hp hi hx z hz hzt => by
    rw [upD_hist]
    exact hG.known (by rw [← hn]; exact hp) hi hx hz hzt
  have nle : ∀ p, p < n → N p ≤ (FK m en k p).length := fun p hp => hG.nle p (by rw [← hn]; exact hp)
  have tlo : ∀ p, p < n → ∀ x ∈ FK m en k p, 0 ≤ x.t ∧ x.t < 200 := fun p hp x hx => by
    have h1 := E.pos p (by rw [← hn]; exact hp) x hx
    have h2 := E.hF.low p (by rw [← hn]; exact hp) x hx
    have h3 := E.hen
    omega
  have lks : ∀ (j : Nat) (z : MLink), m.links[j]? = some z → 0 ≤ z.f ∧ z.f < n ∧ 0 ≤ z.a ∧ z.a ≤ 50 := fun j z hz => by
    have h1 := T.hm.link hz
    have h2 : (n : Int) = m.procs := by rw [hn]; unfold np; omega
    omega
  have hll := T.hm.lim.nl
  clear hn Hnp hlen hx0 hO hC hcb hc0 hc3 hc9 hc10 hc11 E T hG hp1 hp2
  go_enter Try.func21, Try.ntmps21
  go_wp2
  go_loopw [5] (fun s5 wr => ∃ p : Nat, s5 = .int .i64 p ∧ p ≤ n ∧ Below w.heap.size w wr) (fun s5 _ => n - (intOf s5).toNat)
  case atStart => exact ⟨0, rfl, Nat.zero_le _, Below.refl _ _⟩
  case round =>
    obtain ⟨p, rfl, hp, hb0⟩ := hrel
    by_cases hlt : p < n
    · have hpl : (p : Int) < (n : Int) := by omega
      go_wp2
      go_loopw [6] (fun s6 wq => ∃ i : Nat, s6 = .int .i64 i ∧ i ≤ N p ∧ Below w.heap.size w wq) (fun s6 _ => N p - (intOf s6).toNat)
      case atStart => exact ⟨0, rfl, Nat.zero_le _, hb0⟩
      case round =>
        clear hb0
        obtain ⟨i, rfl, hi, hb1⟩ := hrel
        have g0 : wr.cell? ⟨g, p, none⟩ = some (.int .i64 (N p : Int)) := (hb1.cell (p := ⟨g, p, none⟩) hlg).trans (dc p hlt)
        have hlgr : g < wr.heap.size := block_lt_of_cell g0
        have hnp300 : N p ≤ 300 := Nat.le_trans (nle p hlt) (flen p hlt)
        by_cases hli : i < N p
        · obtain ⟨d, hd⟩ := get_of_lt (d := hist m (p : Int) (FK m en k p)) (k := i) (by rw [hist_length]; exact Nat.lt_of_lt_of_le hli (nle p hlt))
          have hx : (FK m en k p)[i]? = some d.it := by
            rw [← hist_items m (p : Int) (FK m en k p), List.getElem?_map, hd]; rfl
          obtain ⟨au, cu, r1, r2⟩ := row p hlt
          obtain ⟨ba, oa, hau, hba, hca⟩ := RowsAt.at_ (r2.keep hb1) hd
          subst hau
          have q9 : wr.cell? ⟨cb, 9, none⟩ = some (.slice (some ⟨db, 0, none⟩) n n) := (hb1.cell (p := ⟨cb, 9, none⟩) hlc).trans c9
          have q1 : wr.cell? ⟨db, p, none⟩ = _ := (hb1.cell (p := ⟨db, p, none⟩) hld).trans r1
          have hl1 : cb < wr.heap.size := block_lt_of_cell q9
          have hl2 : db < wr.heap.size := block_lt_of_cell q1
          have a0 := hca 0 (.int .i64 d.it.t) rfl
          have a1 := hca 1 (.int .i64 d.it.f) rfl
          have a2 := hca 2 (.int .i64 d.it.s) rfl
          have a3 := hca 3 (.int .i64 d.it.l) rfl
          have a4 := hca 4 (.int .i64 d.st) rfl
          simp only [Nat.add_zero] at a0
          have hl3 : ba < wr.heap.size := block_lt_of_cell a0
          have hil : (i : Int) < (N p : Int) := by omega
          have hil2 : (i : Int) < ((FK m en k p).length : Int) := by have := nle p hlt; omega
          have hdt := tlo p hlt d.it (List.mem_of_getElem? hx)
          have hfr := frm p i d.it hlt hli hx
          have hkn := kno p i d.it hlt hli hx
          obtain ⟨W1, hW1⟩ : ∃ W1, W1 = wr.alloc (.cells #[.int .i64 d.it.t, .int .i64 d.it.f, .int .i64 d.it.s, .int .i64 d.it.l, .int .i64 d.st] 127) := ⟨_, rfl⟩
          have HW1 : Hid (W1 = wr.alloc (.cells #[.int .i64 d.it.t, .int .i64 d.it.f, .int .i64 d.it.s, .int .i64 d.it.l, .int .i64 d.st] 127)) := hW1
          have hB1 : Below w.heap.size w W1 := by rw [hW1]; exact hb1.alloc hb1.size _
          have hgb : Blk W1 wr.heap.size #[.int .i64 d.it.t, .int .i64 d.it.f, .int .i64 d.it.s, .int .i64 d.it.l, .int .i64 d.st] 127 := by rw [hW1]; exact heap_alloc_new wr _
          clear hW1 hx hd hca r1 r2
          go_upto_region 8 with fail
          rw [← HW1.out]
          clear HW1 g0 q9 q1 a0 a1 a2 a3 a4 hl1 hl2 hl3 hlgr hba
          obtain ⟨gd, hgd⟩ : ∃ gd, gd = wr.heap.size := ⟨_, rfl⟩
          rw [← hgd] at hgb ⊢
          clear hgd hb1
          have hlgd := hgb.lt
          have e0 : W1.cell? ⟨gd, 0, none⟩ = some (.int .i64 d.it.t) := hgb.cell 0
          have e1 : W1.cell? ⟨gd, 1, none⟩ = some (.int .i64 d.it.f) := hgb.cell 1
          go_cut [54] (fun s54 wc => s54 = .bool false ∧ Below W1.heap.size W1 wc)
          case first =>
            clear hkn
            rcases hfr with hf | ⟨q, j, hq, hqf, hj, hjN⟩
            · have k1 := cell_regrown e1
              have hfd : decide (0 ≤ d.it.f) = false := by simp; omega
              refine wp_region_quiet_below (by kernel_rfl) (by kernel_rfl) ?_
              repeat (go_big_quiet_step (fail))
              refine wpQuiet_nil ?_
              intro wq hw'
              have hbq := below_of_regrown hw'
              clear hw' k1 hfd
              go_wp2
              go_meet
              case rel => exact ⟨rfl, hbq⟩
            · obtain ⟨av, cv, s1, s2⟩ := cow p hlt
              obtain ⟨bc, oc, hav, hbc, hcc⟩ := RowsAt.at_ (s2.keep hB1) hj
              subst hav
              have k1 := cell_regrown e1
              have k10 := cell_regrown ((hB1.cell (p := ⟨cb, 10, none⟩) hlc).trans c10)
              have k2 := cell_regrown ((hB1.cell (p := ⟨kb, p, none⟩) hlk).trans s1)
              have k3 := cell_regrown (hcc 0 (.int .i64 (j : Int)) rfl)
              have k4 := cell_regrown ((hB1.cell (p := ⟨g, q, none⟩) hlg).trans (dc q hq))
              simp only [Nat.add_zero, Nat.mul_one] at k3
              have hql : (q : Int) < (n : Int) := by omega
              have hjl : (j : Int) < (N q : Int) := by omega
              rw [hqf] at k1
              clear hj s1 s2 hcc hqf e1
              refine wp_region_quiet_below (by kernel_rfl) (by kernel_rfl) ?_
              repeat (go_big_quiet_step (fail))
              refine wpQuiet_nil ?_
              intro wq hw'
              have hbq := below_of_regrown hw'
              clear hw' k1 k2 k3 k4 k10
              go_wp2
              go_meet
              case rel => exact ⟨by simp; omega, hbq⟩
          case rest =>
            clear hfr e1
            obtain ⟨rfl, hBc⟩ := hcut
            go_wp2
            go_loopw [8] (fun s8 wq => ∃ j : Nat, s8 = .int .i64 j ∧ j ≤ m.links.length ∧ Below W1.heap.size W1 wq) (fun s8 _ => m.links.length - (intOf s8).toNat)
            case atStart => exact ⟨0, rfl, Nat.zero_le _, hBc⟩
            case round =>
              clear hBc
              obtain ⟨j, rfl, hj, hB2⟩ := hrel
              have hBx : Below w.heap.size w wr := hB1.trans (hB2.mono hB1.size)
              have f3 : wr.cell? ⟨cb, 3, none⟩ = some (.slice ao1 m.links.length cap1) := (hBx.cell (p := ⟨cb, 3, none⟩) hlc).trans c3
              have hl1 : cb < wr.heap.size := block_lt_of_cell f3
              by_cases hlj : j < m.links.length
              · obtain ⟨z, hz⟩ := get_of_lt hlj
                obtain ⟨bl, ol, hao, hbl, hcl⟩ := RowsAt.at_ (RowsAt.keep hL hBx) hz
                subst hao
                have x0 := hcl 0 (.int .i64 z.f) rfl
                have x1 := hcl 1 (.int .i64 z.t) rfl
                have x2 := hcl 2 (.int .i64 z.a) rfl
                simp only [Nat.add_zero] at x0
                have hl3 : bl < wr.heap.size := block_lt_of_cell x0
                obtain ⟨hz0, hz1, hz2, hz3⟩ := lks j z hz
                have hkz := hkn z (List.mem_of_getElem? hz)
                have hjl : (j : Int) < (m.links.length : Int) := by omega
                obtain ⟨W2, hW2⟩ : ∃ W2, W2 = wr.alloc (.cells #[.int .i64 z.f, .int .i64 z.t, .int .i64 z.a] 77) := ⟨_, rfl⟩
                have HW2 : Hid (W2 = wr.alloc (.cells #[.int .i64 z.f, .int .i64 z.t, .int .i64 z.a] 77)) := hW2
                have hB3 : Below W1.heap.size W1 W2 := by rw [hW2]; exact hB2.alloc hB2.size _
                have hxb : Blk W2 wr.heap.size #[.int .i64 z.f, .int .i64 z.t, .int .i64 z.a] 77 := by rw [hW2]; exact heap_alloc_new wr _
                clear hW2 hz hcl
                go_upto_region 14 with fail
                rw [← HW2.out]
                clear HW2 f3 x0 x1 x2 hl1 hl3 hbl
                obtain ⟨gx, hgx⟩ : ∃ gx, gx = wr.heap.size := ⟨_, rfl⟩
                rw [← hgx] at hxb ⊢
                clear hgx hB2 hBx
                have hB4 : Below w.heap.size w W2 := hB1.trans (hB3.mono hB1.size)
                have hlgx := hxb.lt
                have y0 : W2.cell? ⟨gx, 0, none⟩ = some (.int .i64 z.f) := hxb.cell 0
                have y1 : W2.cell? ⟨gx, 1, none⟩ = some (.int .i64 z.t) := hxb.cell 1
                have y2 : W2.cell? ⟨gx, 2, none⟩ = some (.int .i64 z.a) := hxb.cell 2
                go_cut [98] (fun s98 wc => s98 = .bool false ∧ Below W2.heap.size W2 wc)
                case first =>
                  by_cases hzt : z.t = (p : Int)
                  · have hk := hkz hzt
                    obtain ⟨q, hqf⟩ : ∃ q : Nat, z.f = (q : Int) := ⟨z.f.toNat, by omega⟩
                    have hqn : q < n := by omega
                    rw [hqf, Int.toNat_natCast] at hk
                    obtain ⟨av, cv, s1, s2⟩ := row q hqn
                    have k0 := cell_regrown y0
                    have k1 := cell_regrown y1
                    have k2 := cell_regrown y2
                    have k9 := cell_regrown ((hB4.cell (p := ⟨cb, 9, none⟩) hlc).trans c9)
                    have k5 := cell_regrown ((hB4.cell (p := ⟨db, q, none⟩) hld).trans s1)
                    have k4 := cell_regrown ((hB4.cell (p := ⟨g, q, none⟩) hlg).trans (dc q hqn))
                    have kd := cell_regrown ((hB3.cell (p := ⟨gd, 0, none⟩) hlgd).trans e0)
                    have hql : (q : Int) < (n : Int) := by omega
                    have hfl := flen q hqn
                    obtain ⟨U, hU⟩ : ∃ U, U = upD (hist m (q : Int) (FK m en k q)) (d.it.t - z.a) := ⟨_, rfl⟩
                    have hbef : ∀ r : Regrown, Calls Try.prog 41 #[.slice av (FK m en k q).length cv, .int .i64 (d.it.t - z.a)] (grow (redrawn W2 r.d) r.os) fun e' w'' => e' = .returned (.int .i64 (U : Int)) ∧ ∃ q : Regrown, w'' = grow (redrawn W2 q.d) q.os := fun r => by
                      rw [hU]
                      exact Calls.regrown_of (beforeN_any _ _ _ _ _ ((s2.keep hB4).keep ((below_regrown W2 r.d r.os).mono hB4.size)) (by rw [hist_length]; omega))
                    rw [← hU] at hk
                    have hUl : (U : Int) ≤ (N q : Int) := by omega
                    rw [hqf] at k0
                    rw [hzt] at k1
                    clear s1 s2 hqf hzt hU y0 y1 y2 hkz
                    refine wp_region_quiet_below (by kernel_rfl) (by kernel_rfl) ?_
                    repeat (go_big_quiet_step (exact hbef _))
                    refine wpQuiet_nil ?_
                    intro wq hw'
                    have hbq := below_of_regrown hw'
                    clear hw' k0 k1 k2 k4 k5 k9 kd hbef
                    go_wp2
                    go_meet
                    case rel => exact ⟨by simp; omega, hbq⟩
                  · have k1 := cell_regrown y1
                    have hfd : (z.t == (p : Int)) = false := by simp [hzt]
                    refine wp_region_quiet_below (by kernel_rfl) (by kernel_rfl) ?_
                    repeat (go_big_quiet_step (fail))
                    refine wpQuiet_nil ?_
                    intro wq hw'
                    have hbq := below_of_regrown hw'
                    clear hw' k1 hfd
                    go_wp2
                    go_meet
                    case rel => exact ⟨rfl, hbq⟩
                case rest =>
                  obtain ⟨rfl, hBd⟩ := hcut
                  have hB5 := hB3.trans (hBd.mono hB3.size)
                  clear y0 y1 y2 hB3 hB4 hBd hkz
                  go_wp2
                  go_roundw
                  case rel => exact ⟨j + 1, by go_num, hlj, hB5⟩
                  case measure => simp [intOf]; omega
              · go_wp2
                go_roundw
                case rel => exact ⟨i + 1, by go_num, hli, hBx⟩
                case measure => simp [intOf]; omega
        · go_wp2
          go_roundw
          case rel => exact ⟨p + 1, by go_num, hlt, hb1⟩
          case measure => simp [intOf]; omega
    · go_wp2
      go_ret
      exact ⟨rfl, hb0⟩

set_option maxRecDepth 100000 in
set_option maxHeartbeats 16000000 in
theorem known_any (w : World) (m : Mdl) (lv rv sv tv : Value) (R : List RuleV) (steps : List Int) (en : Int) (h : ModelAt w w.heap.size lv rv sv m R) (hT : RowsAt 1 intC w w.heap.size tv steps)
    (b1 : m.links.length * 24 ≤ 140737488351232) (b2 : m.rules.length * 56 ≤ 140737488351232) (b3 : m.starts.length * 24 ≤ 140737488351232) (b4 : ∀ r ∈ m.rules, r.es.length * 24 ≤ 140737488351232) (b5 : steps.length * 8 ≤ 140737488351232) :
    Calls Try.prog 6 #[.agg #[.int .i64 m.procs, .int .i64 m.states, .int .i64 m.loads, lv, rv, sv], .int .i64 en, tv] w fun e w' => e = .returned (.bool true) ∧ Below w.heap.size w w' := by
  obtain ⟨aot, capt, htv, hcapt⟩ := RowsAt.form hT
  subst htv
  obtain ⟨ao2, cap2, hsv, hcap2⟩ := RowsAt.form h.starts
  subst hsv
  obtain ⟨ao1, cap1, hlv, hcap1⟩ := RowsAt.form h.links
  subst hlv
  obtain ⟨ao3, cap3, hrv, hcap3⟩ := RowsAt.form h.rules.1
  subst hrv
  obtain ⟨W0, hW0⟩ : ∃ W0, W0 = w.alloc (.cells #[.int .i64 m.procs, .int .i64 m.states, .int .i64 m.loads, .slice ao1 m.links.length cap1, .slice ao3 R.length cap3, .slice ao2 m.starts.length cap2] 26) := ⟨_, rfl⟩
  have HW0 : Hid (W0 = w.alloc (.cells #[.int .i64 m.procs, .int .i64 m.states, .int .i64 m.loads, .slice ao1 m.links.length cap1, .slice ao3 R.length cap3, .slice ao2 m.starts.length cap2] 26)) := hW0
  have hB0 : Below w.heap.size w W0 := by rw [hW0]; exact (Below.refl _ _).alloc (Nat.le_refl _) _
  have hmb : Blk W0 w.heap.size #[.int .i64 m.procs, .int .i64 m.states, .int .i64 m.loads, .slice ao1 m.links.length cap1, .slice ao3 R.length cap3, .slice ao2 m.starts.length cap2] 26 := by rw [hW0]; exact heap_alloc_new w _
  have hz0 : w.heap.size < W0.heap.size := hmb.lt
  have hop := opened_any W0 m _ _ _ R w.heap.size en (h.keep hB0) hB0.size b1 b2 b3 b4
  clear hW0
  have m0 : W0.cell? ⟨w.heap.size, 0, none⟩ = some (.int .i64 m.procs) := hmb.cell 0
  have m1 : W0.cell? ⟨w.heap.size, 1, none⟩ = some (.int .i64 m.states) := hmb.cell 1
  have m2 : W0.cell? ⟨w.heap.size, 2, none⟩ = some (.int .i64 m.loads) := hmb.cell 2
  have m3 : W0.cell? ⟨w.heap.size, 3, none⟩ = some (.slice ao1 m.links.length cap1) := hmb.cell 3
  have m4 : W0.cell? ⟨w.heap.size, 4, none⟩ = some (.slice ao3 R.length cap3) := hmb.cell 4
  have m5 : W0.cell? ⟨w.heap.size, 5, none⟩ = some (.slice ao2 m.starts.length cap2) := hmb.cell 5
  go_enter Try.func6, Try.ntmps6
  go_upto_region 1 with fail
  rw [← HW0.out]
  go_wp2_with fail
  refine hop.mono ?_
  rintro e1 w1 ⟨hb1, ⟨ha, pv, rfl⟩ | ⟨ha, nb, V, k, lo, cb, db, kb, D, C, rfl, hN, hC, hk, hnx, hsep, hlo1, hlo2⟩⟩
  · clear hop m0 m1 m2 m3 m4 m5
    have hbw : Below w.heap.size w w1 := hB0.trans (hb1.mono hB0.size)
    go_wp2
    go_ret
    exact ⟨rfl, hbw⟩
  · clear hop m0 m1 m2 m3 m4 m5
    have hbw : Below w.heap.size w w1 := hB0.trans (hb1.mono hB0.size)
    obtain ⟨hm, hen0, hen⟩ := right_of_valid (answer_valid ha)
    have T : Tells m en k := ⟨hm, hen0, hen, hnx, hk⟩
    have L1 : Law w w1 nb lo w1.heap.size cb db kb (.slice ao1 m.links.length cap1) (.slice ao3 R.length cap3) (.slice ao2 m.starts.length cap2) m en k D C (fun _ => 0) (openN m) V := ⟨hN, good_open T.env, hC, fun i hi => .inl (hsep i hi), by omega, hbw⟩
    have hmb1 := hmb.keep (kept_of_below' hb1) (fun e => e)
    obtain ⟨hi, hhi⟩ : ∃ hi, hi = w1.heap.size := ⟨_, rfl⟩
    rw [← hhi] at L1
    have hp1 := hm.lim.p1
    have hp2 := hm.lim.p2
    have hnp1 : 1 ≤ np m := by unfold np; omega
    have hnp6 : np m ≤ 6 := by unfold np; omega
    clear ha hN hC hsep hk hnx hhi hmb
    go_wp2
    go_loopw [10] (fun s10 wq => ∃ (i : Nat) (N : Nat → Nat) (s : NS) (V : NV), s10 = .int .i64 i ∧ i ≤ steps.length ∧ Law w wq nb lo hi cb db kb (.slice ao1 m.links.length cap1) (.slice ao3 R.length cap3) (.slice ao2 m.starts.length cap2) m en k D C N s V) (fun s10 _ => steps.length - (intOf s10).toNat)
    case atStart => exact ⟨0, _, _, V, rfl, Nat.zero_le _, L1⟩
    case round =>
      clear L1 hmb1
      obtain ⟨i, N, s, V, rfl, hi', L⟩ := hrel
      by_cases hlt2 : i < steps.length
      · obtain ⟨x, hx⟩ := get_of_lt hlt2
        obtain ⟨tb, tof, hao, htbB, htc⟩ := RowsAt.at_ (hT.keep L.bel) hx
        subst hao
        have t0 := htc 0 (.int .i64 x) rfl
        simp only [Nat.add_zero, Nat.mul_one] at t0
        have hltb : tb < wr.heap.size := block_lt_of_cell t0
        have hstep := step_any wr nb m en (FK m en k) (CK m en k) N s V x T.env L.net L.good
        have hil : (i : Int) < steps.length := by omega
        clear hx htc
        go_wp2_with fail
        refine hstep.mono ?_
        rintro e3 w3 ⟨b, s3, V3, rfl, hg3, hc3⟩
        clear hstep t0
        obtain ⟨N3, L3⟩ := L.next T hg3 hc3
        have hls3 := lists_any w3 nb lo hi cb db kb _ _ _ m en k D C N3 s3 V3 T L3.net L3.good L3.crd
        go_wp2_with fail
        refine hls3.mono ?_
        rintro e4 w4 ⟨hb4, v4, rfl, hO4⟩
        clear hls3
        have L4 := L3.grow hb4
        have hkn := knownAt_any w4 lo hi cb db kb _ _ _ m en k D C N3 s3 w3.heap.size v4 T L4.good.1 L4.crd (RowsAt.mono (RowsAt.keep h.links L4.bel) L4.bel.size) hO4
        clear L L3 hg3 hc3
        go_wp2_with fail
        refine hkn.mono ?_
        rintro e5 w5 ⟨rfl, hb5⟩
        have L5 := L4.grow hb5
        clear hkn hO4 L4
        go_wp2
        go_roundw
        case rel => exact ⟨i + 1, N3, s3, V3, by go_num, hlt2, L5⟩
        case measure => simp [intOf]; omega
      · have hbf := L.bel
        clear hi' L
        go_wp2
        go_ret
        exact ⟨rfl, hbf⟩

end Go.Proofs.Ytkobkilfbbalaaa

