/-
  The law's own: reaches.
-/
import Derived.Test.YtbpaigpjffdcbaaRelo
namespace Go.Proofs.Ytbpaigpjffdcbaa
open Go.RowKit Go.Sort Go.Maps

def bools (l : List Bool) : Array Value := (l.map Value.bool).toArray
theorem bools_get {l : List Bool} {j : Nat} {x : Bool} (h : l[j]? = some x) : (bools l)[j]? = some (.bool x) := by simp [bools, h]
theorem bools_set (l : List Bool) (j : Nat) (x : Bool) : (bools l).setIfInBounds j (.bool x) = bools (l.set j x) := by simp [bools, List.map_set]
theorem made_bools (n : Nat) : madeCells #[Value.bool false] n = bools (List.replicate n false) := by
  apply Array.ext
  · simp [madeCells, bools]
  · intro i h1 h2
    simp [madeCells, bools, Nat.mod_one]
theorem info_bools : (Try.prog.info? 4).map (fun i => (i.zero, i.size, i.bytes)) = some (some (.bool false), 1, 1) := by kernel_rfl

theorem fold_len (l : List Bool) (ys : List MLink) : (ys.foldl link1 l).length = l.length := (fold_le ys l).1.1.symm
theorem fold_take {m : Mdl} {k : Nat} {y : MLink} (h : m.links[k]? = some y) (l : List Bool) : (m.links.take (k + 1)).foldl link1 l = link1 ((m.links.take k).foldl link1 l) y := by
  rw [take_snoc h, List.foldl_append]; rfl

set_option maxRecDepth 100000 in
set_option maxHeartbeats 4000000 in
theorem reaches_any (m : Mdl) (lv rv sv : Value) (B : Nat) (a q : Int) (w : World) (hL : LinksAt w B lv m.links) (hB : B ≤ w.heap.size) (hm : Right m) (ha0 : 0 ≤ a) (ha1 : a < m.procs) (hq0 : 0 ≤ q) (hq1 : q < m.procs) :
    Calls Try.prog 23 #[.agg #[.int .i64 m.procs, .int .i64 m.states, .int .i64 m.loads, lv, rv, sv], .int .i64 a, .int .i64 q] w fun e w' => e = .returned (.bool (!apartFrom m a.toNat q.toNat)) ∧ Below w.heap.size w w' := by
  have hp1 := hm.lim.p1
  have hp2 := hm.lim.p2
  have hnl := hm.lim.nl
  obtain ⟨n, hn⟩ : ∃ n : Nat, m.procs = (n : Int) := ⟨m.procs.toNat, by omega⟩
  have hnp : np m = n := by unfold np; omega
  have Hnp : Hid (np m = n) := hnp
  have Hn : Hid (m.procs = (n : Int)) := hn
  have hn6 : n ≤ 6 := by omega
  obtain ⟨x, hx⟩ : ∃ x : Nat, a = (x : Int) := ⟨a.toNat, by omega⟩
  obtain ⟨z, hz⟩ : ∃ z : Nat, q = (z : Int) := ⟨q.toNat, by omega⟩
  subst hx hz
  have hxn : x < n := by omega
  have hzn : z < n := by omega
  rw [Int.toNat_natCast, Int.toNat_natCast, hn]
  clear ha0 ha1 hq0 hq1 hn hnp
  obtain ⟨ao, cap, rfl, hcap⟩ := RowsAt.form hL
  obtain ⟨W0, hW0⟩ : ∃ W0, W0 = w.alloc (.cells #[.int .i64 (n : Int), .int .i64 m.states, .int .i64 m.loads, .slice ao m.links.length cap, rv, sv] 26) := ⟨_, rfl⟩
  have HW0 : Hid (W0 = w.alloc (.cells #[.int .i64 (n : Int), .int .i64 m.states, .int .i64 m.loads, .slice ao m.links.length cap, rv, sv] 26)) := hW0
  have hB0 : Below w.heap.size w W0 := by rw [hW0]; exact (Below.refl _ _).alloc (Nat.le_refl _) _
  have hmb : Blk W0 w.heap.size #[.int .i64 (n : Int), .int .i64 m.states, .int .i64 m.loads, .slice ao m.links.length cap, rv, sv] 26 := by rw [hW0]; exact heap_alloc_new w _
  have hzz : W0.heap.size = w.heap.size + 1 := by rw [hW0]; simp
  have Hz : Hid (W0.heap.size = w.heap.size + 1) := hzz
  have hmk := run_make_row' (P := Try.prog) 130 4 (.bool false) 1 Try.underlying130 info_bools rfl .i64 .i64 n (by omega) (by omega)
  have m0 : W0.cell? ⟨w.heap.size, 0, none⟩ = some (.int .i64 (n : Int)) := hmb.cell 0
  have hlm := hmb.lt
  have hA : Blk (W0.alloc (.cells (madeCells #[.bool false] n) 4)) (w.heap.size + 1) (bools (List.replicate n false)) 4 := by rw [← made_bools]; exact blk_newQ hzz.symm
  have hxi : (x : Int) < n := by omega
  have cx : (W0.alloc (.cells (madeCells #[.bool false] n) 4)).cell? ⟨w.heap.size + 1, x, none⟩ = some (.bool false) := (hA.cell x).trans (bools_get (by rw [List.getElem?_replicate, if_pos hxn]))
  have fx : (W0.alloc (.cells (madeCells #[.bool false] n) 4)).frozen? ⟨w.heap.size + 1, x, none⟩ = false := hA.frozen x
  have hA1 := hA.set x (.bool true)
  rw [bools_set] at hA1
  have hkA : KeptF (fun i => i = w.heap.size + 1) W0 ((W0.alloc (.cells (madeCells #[.bool false] n) 4)).setCell ⟨w.heap.size + 1, x, none⟩ (.bool true)) := ((KeptF.refl (fun i => i = w.heap.size + 1) W0).alloc _).setCell (p := ⟨w.heap.size + 1, x, none⟩) (.inl rfl) _
  clear hW0 hzz hA
  go_enter Try.func23, Try.ntmps23
  go_upto_region 1 with fail
  rw [← HW0.out]
  go_upto_region 2 with fail
  rw [Hz.out]
  go_wp2
  clear m0 hmk cx fx
  go_loopw [8] (fun s8 wr => ∃ i : Nat, s8 = .int .i64 i ∧ i ≤ n ∧ Blk wr (w.heap.size + 1) (bools (reach m x i)) 4 ∧ KeptF (fun i => i = w.heap.size + 1) W0 wr) (fun s8 _ => n - (intOf s8).toNat)
  case atStart =>
    refine ⟨0, rfl, Nat.zero_le _, ?_, hkA⟩
    show Blk _ _ (bools ((List.replicate (np m) false).set x true)) _
    rw [Hnp.out]; exact hA1
  case round =>
    clear hA1 hkA
    obtain ⟨i, rfl, hi, hb, hk⟩ := hrel
    have m0 : wr.cell? ⟨w.heap.size, 0, none⟩ = some (.int .i64 (n : Int)) := (hk.cell (p := ⟨w.heap.size, 0, none⟩) hlm (by simp)).trans (hmb.cell 0)
    have hlr := hb.lt
    by_cases hlt : i < n
    · go_wp2
      clear m0
      go_loopw [9] (fun s9 wr => ∃ k : Nat, s9 = .int .i64 k ∧ k ≤ m.links.length ∧ Blk wr (w.heap.size + 1) (bools ((m.links.take k).foldl link1 (reach m x i))) 4 ∧ KeptF (fun i => i = w.heap.size + 1) W0 wr) (fun s9 _ => m.links.length - (intOf s9).toNat)
      case atStart => exact ⟨0, rfl, Nat.zero_le _, by rw [List.take_zero]; exact hb, hk⟩
      case round =>
        clear hb hk hlr
        obtain ⟨k, rfl, hkl, hb, hk⟩ := hrel
        have m3 : wr.cell? ⟨w.heap.size, 3, none⟩ = some (.slice ao m.links.length cap) := (hk.cell (p := ⟨w.heap.size, 3, none⟩) hlm (by simp)).trans (hmb.cell 3)
        have hlr := hb.lt
        by_cases hkt : k < m.links.length
        · obtain ⟨y, hy⟩ := get_of_lt hkt
          have hyb := hm.link hy
          have hbw : Below w.heap.size w wr := hB0.trans (KeptF.below hk hB0.size (fun i hi => by omega))
          obtain ⟨lb, lo, hao, hlbB, hlc⟩ := RowsAt.at_ (RowsAt.keep hL (hbw.mono hB)) hy
          subst hao
          have y0 := hlc 0 (.int .i64 y.f) rfl
          have y1 := hlc 1 (.int .i64 y.t) rfl
          simp only [Nat.add_zero] at y0
          have hyf : y.f < (n : Int) := by rw [← Hn.out]; exact hyb.2.1
          have hyt : y.t < (n : Int) := by rw [← Hn.out]; exact hyb.2.2.2.1
          have hlen : ((m.links.take k).foldl link1 (reach m x i)).length = n := by rw [fold_len, reach_len, Hnp.out]
          obtain ⟨bf, hbf⟩ := get_of_lt (d := (m.links.take k).foldl link1 (reach m x i)) (k := y.f.toNat) (by omega)
          obtain ⟨bt, hbt⟩ := get_of_lt (d := (m.links.take k).foldl link1 (reach m x i)) (k := y.t.toNat) (by omega)
          have cf : wr.cell? ⟨w.heap.size + 1, y.f.toNat, none⟩ = some (.bool bf) := (hb.cell _).trans (bools_get hbf)
          have ct : wr.cell? ⟨w.heap.size + 1, y.t.toNat, none⟩ = some (.bool bt) := (hb.cell _).trans (bools_get hbt)
          have ft : wr.frozen? ⟨w.heap.size + 1, y.t.toNat, none⟩ = false := hb.frozen _
          have hllb : lb < wr.heap.size := block_lt_of_cell y0
          have hgd : ((m.links.take k).foldl link1 (reach m x i)).getD y.f.toNat false = bf := by rw [List.getD_eq_getElem?_getD, hbf]; rfl
          have Hgd : Hid (((m.links.take k).foldl link1 (reach m x i)).getD y.f.toNat false = bf) := hgd
          have Hy : Hid (m.links[k]? = some y) := hy
          clear hlc hy hgd hbf hbt hlen
          cases bf with
          | true =>
            go_wp2
            go_roundw
            case rel =>
              have hb2 := hb.set y.t.toNat (.bool true)
              rw [bools_set] at hb2
              refine ⟨k + 1, by go_num, hkt, ?_, hk.setCell (p := ⟨w.heap.size + 1, y.t.toNat, none⟩) (.inl rfl) _⟩
              rw [fold_take Hy.out, link1, if_pos Hgd.out]
              exact hb2
            case measure => simp [intOf]; omega
          | false =>
            go_wp2
            go_roundw
            case rel =>
              refine ⟨k + 1, by go_num, hkt, ?_, hk⟩
              rw [fold_take Hy.out, link1, if_neg (by rw [Hgd.out]; simp)]
              exact hb
            case measure => simp [intOf]; omega
        · have hke : k = m.links.length := by omega
          subst hke
          rw [List.take_length] at hb
          go_wp2
          go_roundw
          case rel => exact ⟨i + 1, by go_num, hlt, hb, hk⟩
          case measure => simp [intOf]; omega
    · have hie : i = n := by omega
      subst hie
      obtain ⟨bz, hbz⟩ := get_of_lt (d := reach m x i) (k := z) (by rw [reach_len, Hnp.out]; exact hzn)
      have cz : wr.cell? ⟨w.heap.size + 1, z, none⟩ = some (.bool bz) := (hb.cell _).trans (bools_get hbz)
      have Hbz : Hid ((reach m x i)[z]? = some bz) := hbz
      have hzi : (z : Int) < i := by omega
      clear hbz
      go_wp2
      go_ret
      refine ⟨?_, hB0.trans (KeptF.below hk hB0.size (fun i hi => by omega))⟩
      unfold apartFrom
      rw [Bool.not_not, Hnp.out, List.getD_eq_getElem?_getD, Hbz.out]
      rfl

end Go.Proofs.Ytbpaigpjffdcbaa
