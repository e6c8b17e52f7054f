/-
  The law's spoil: it turns a model's own rows, and nothing else.
  The law's own: alike.
  The law's seen: what See answers is new.
  The law's left: what Run answered stays as it was left.
  The law Leaves: true, whatever the model and the steps.
-/
import Derived.Test.YtaieackeflmhgaaLeaves1
import Derived.Test.YtaieackeflmhgaaSafe13
import Derived.ArgAppend
import Derived.Test.YtaieackeflmhgaaSafe15
namespace Go.Proofs.Ytaieackeflmhgaa
open Go.RowKit Go.Sort Go.Maps

/-- rules that one may spoil, but for where their emissions lie -/
def RRoom (lo hi : Nat) (w : World) (v : Value) (RS : List RuleS) : Prop :=
  (∃ ao cap, v = .slice ao RS.length cap ∧ RS.length ≤ cap ∧ (RS ≠ [] → ∃ g c, ao = some ⟨g, 0, none⟩ ∧ lo ≤ g ∧ g < hi ∧ Blk w g c 103 ∧ RS.length * 5 ≤ c.size ∧ ∀ (i : Nat) (x : RuleS), RS[i]? = some x → c[i * 5 + 4]? = some x.ev)) ∧ ∀ x ∈ RS, Room 101 3 lo hi w x.ev x.r.es.length

section
variable {lo hi : Nat} {w : World} {v : Value} {RS : List RuleS}
theorem RRoom.form (h : RRoom lo hi w v RS) : ∃ ao cap, v = .slice ao RS.length cap ∧ RS.length ≤ cap := by
  obtain ⟨⟨ao, cap, h1, h2, _⟩, _⟩ := h; exact ⟨ao, cap, h1, h2⟩
theorem RRoom.other (h : RRoom lo hi w v RS) {g o : Nat} {c : Array Value} {T : TypeId} (hb : Blk w g c T) (hT : T ≠ 103) (u : Value) : RRoom lo hi (w.setCell ⟨g, o, none⟩ u) v RS := by
  obtain ⟨⟨ao, cap, h1, h2, h3⟩, h4⟩ := h
  refine ⟨⟨ao, cap, h1, h2, fun hn => ?_⟩, fun x hx => (h4 x hx).set g o u⟩
  obtain ⟨b, c', h5, h6, h7, h8, h9⟩ := h3 hn
  exact ⟨b, c', h5, h6, h7, h8.set_other (a := ⟨g, o, none⟩) (fun e => (hb.type h8 hT) e.symm) u, h9⟩
theorem RRoom.at_ (h : RRoom lo hi w v RS) {i : Nat} {x : RuleS} (hx : RS[i]? = some x) : ∃ g c cap, v = .slice (some ⟨g, 0, none⟩) RS.length cap ∧ RS.length ≤ cap ∧ lo ≤ g ∧ g < hi ∧ Blk w g c 103 ∧ c[i * 5 + 4]? = some x.ev ∧ (∃ u, c[i * 5 + 3]? = some u) ∧ ∀ u, RRoom lo hi (w.setCell ⟨g, i * 5 + 3, none⟩ u) v RS := by
  obtain ⟨⟨ao, cap, h1, h2, h3⟩, h4⟩ := h
  obtain ⟨b, c, h5, h6, h7, h8, h9, h10⟩ := h3 (fun e => by rw [e] at hx; simp at hx)
  subst h5
  have hi' := get_lt hx
  refine ⟨b, c, cap, h1, h2, h6, h7, h8, h10 i x hx, ⟨c[i * 5 + 3]'(by omega), Array.getElem?_eq_getElem _⟩, fun u => ⟨⟨_, cap, h1, h2, fun _ => ⟨b, _, rfl, h6, h7, h8.set _ u, by rw [Array.size_setIfInBounds]; exact h9, fun j y hy => ?_⟩⟩, fun y hy => (h4 y hy).set b _ u⟩⟩
  rw [Array.getElem?_setIfInBounds_ne (by omega)]
  exact h10 j y hy
theorem RRoom.keep {F : Nat → Prop} {w' : World} (h : RRoom lo hi w v RS) (k : KeptF F w w') (hF : ∀ i, lo ≤ i → i < hi → ¬ F i) : RRoom lo hi w' v RS := by
  obtain ⟨⟨ao, cap, h1, h2, h3⟩, h4⟩ := h
  refine ⟨⟨ao, cap, h1, h2, fun hn => ?_⟩, fun x hx => (h4 x hx).keep k hF⟩
  obtain ⟨b, c', h5, h6, h7, h8, h9⟩ := h3 hn
  exact ⟨b, c', h5, h6, h7, h8.keep k (hF b h6 h7), h9⟩
theorem ModOwn.rroom {lv : Value} {m : Mdl} (h : ModOwn w lo lv v m RS) : RRoom lo w.heap.size w v RS := by
  refine ⟨?_, fun x hx => (h.ems x hx).room⟩
  rcases h.rules.2 with ⟨h1, h2⟩ | ⟨g, cap, cur, h1, h2, h3, h4, _, h5, _⟩
  · exact ⟨none, 0, by rw [h2]; exact h1, by omega, fun hn => absurd (List.eq_nil_of_length_eq_zero h2) hn⟩
  · subst h1
    refine ⟨_, _, rfl, h4, fun _ => ⟨g, cur, rfl, h2, Blk.lt (T := 103) h3, h3, ?_, fun i x hx => ?_⟩⟩
    · have : cur.size = cap * 5 := h5
      omega
    · rw [← Blk.cell (T := 103) h3]
      exact h.rules.cell hx (k := 4) (u := x.ev) rfl
end

set_option maxRecDepth 100000 in
set_option maxHeartbeats 8000000 in
theorem spoil_any (w : World) (lo hi : Nat) (lv rv sv : Value) (m : Mdl) (RS : List RuleS) (hL : Room 94 3 lo hi w lv m.links.length) (hS : Room 73 3 lo hi w sv m.starts.length) (hR : RRoom lo hi w rv RS) (hhi : hi ≤ w.heap.size)
    (b1 : m.links.length * 24 ≤ 140737488351232) (b2 : RS.length * 56 ≤ 140737488351232) (b3 : m.starts.length * 24 ≤ 140737488351232) (b4 : ∀ x ∈ RS, x.r.es.length * 24 ≤ 140737488351232) :
    Calls Try.prog 35 #[.agg #[.int .i64 m.procs, .int .i64 m.states, .int .i64 m.loads, lv, rv, sv]] w fun e w' => e = .returned (.tuple #[]) ∧ KeptF (fun i => lo ≤ i ∧ i < hi) w w' := by
  obtain ⟨ao1, cap1, hlv, hcap1⟩ := hL.form
  subst hlv
  obtain ⟨ao2, cap2, hsv, hcap2⟩ := hS.form
  subst hsv
  obtain ⟨ao3, cap3, hrv, hcap3⟩ := hR.form
  subst hrv
  obtain ⟨W0, hW0⟩ : ∃ W0, W0 = w.alloc (.cells #[.int .i64 m.procs, .int .i64 m.states, .int .i64 m.loads, .slice ao1 m.links.length cap1, .slice ao3 RS.length cap3, .slice ao2 m.starts.length cap2] 31) := ⟨_, rfl⟩
  have HW0 : Hid (W0 = w.alloc (.cells #[.int .i64 m.procs, .int .i64 m.states, .int .i64 m.loads, .slice ao1 m.links.length cap1, .slice ao3 RS.length cap3, .slice ao2 m.starts.length cap2] 31)) := hW0
  have hK0 : KeptF (fun i => lo ≤ i ∧ i < hi) w W0 := by rw [hW0]; exact (KeptF.refl _ w).alloc _
  have hKn : KeptF (fun _ => False) w W0 := by rw [hW0]; exact (KeptF.refl _ w).alloc _
  have hmb : Blk W0 w.heap.size #[.int .i64 m.procs, .int .i64 m.states, .int .i64 m.loads, .slice ao1 m.links.length cap1, .slice ao3 RS.length cap3, .slice ao2 m.starts.length cap2] 31 := by rw [hW0]; exact heap_alloc_new w _
  clear hW0
  replace hL := hL.keep hKn (fun _ _ _ e => e)
  replace hS := hS.keep hKn (fun _ _ _ e => e)
  replace hR := hR.keep hKn (fun _ _ _ e => e)
  clear hKn
  go_enter Try.func35, Try.ntmps35
  go_upto_region 1 with fail
  rw [← HW0.out]
  clear HW0
  go_wp2
  go_loopw [2] (fun s2 wr => ∃ i : Nat, s2 = .int .i64 i ∧ i ≤ RS.length ∧ KeptF (fun i => lo ≤ i ∧ i < hi) W0 wr ∧ Room 94 3 lo hi wr (.slice ao1 m.links.length cap1) m.links.length ∧ Room 73 3 lo hi wr (.slice ao2 m.starts.length cap2) m.starts.length ∧ RRoom lo hi wr (.slice ao3 RS.length cap3) RS) (fun s2 _ => RS.length - (intOf s2).toNat)
  case atStart => exact ⟨0, rfl, Nat.zero_le _, KeptF.refl _ _, hL, hS, hR⟩
  case round =>
    clear hL hS hR
    obtain ⟨i, rfl, hi', hK, hL, hS, hR⟩ := hrel
    have hbx := hmb.keep hK (by omega)
    have p4 : wr.cell? ⟨w.heap.size, 4, none⟩ = some (.slice ao3 RS.length cap3) := hbx.cell 4
    have hlb := hbx.lt
    by_cases hlt : i < RS.length
    · obtain ⟨x, hx⟩ := get_of_lt hlt
      have hil : (i : Int) < (RS.length : Int) := by omega
      obtain ⟨g, c, cp, hv, hcp, hg1, hg2, hgb, hev, ⟨u3, hu3⟩, hset⟩ := hR.at_ hx
      cases hv
      have hxm := List.mem_of_getElem? hx
      have b5 := b4 x hxm
      obtain ⟨aoe, cape, hev', hcape⟩ := (hR.2 x hxm).form
      have Hev : Hid (x.ev = .slice aoe x.r.es.length cape) := hev'
      have Hx : Hid (RS[i]? = some x) := hx
      clear hev hu3 hset hgb hcp hev' hx
      go_wp2
      clear p4 hlb hbx
      go_loopw [3] (fun s3 wr => ∃ j : Nat, s3 = .int .i64 j ∧ j ≤ x.r.es.length ∧ KeptF (fun i => lo ≤ i ∧ i < hi) W0 wr ∧ Room 94 3 lo hi wr (.slice ao1 m.links.length cap1) m.links.length ∧ Room 73 3 lo hi wr (.slice ao2 m.starts.length cap2) m.starts.length ∧ RRoom lo hi wr (.slice (some ⟨g, 0, none⟩) RS.length cap3) RS) (fun s3 _ => x.r.es.length - (intOf s3).toNat)
      case atStart => exact ⟨0, rfl, Nat.zero_le _, hK, hL, hS, hR⟩
      case round =>
        clear hK hL hS hR
        obtain ⟨j, rfl, hj, hK, hL, hS, hR⟩ := hrel
        have hbx := hmb.keep hK (by omega)
        have p4 : wr.cell? ⟨w.heap.size, 4, none⟩ = some (.slice (some ⟨g, 0, none⟩) RS.length cap3) := hbx.cell 4
        have hlb := hbx.lt
        obtain ⟨g', c, cp, hv, hcp, hg1', hg2', hgb, hev, ⟨u3, hu3⟩, hset⟩ := hR.at_ Hx.out
        cases hv
        have e4 : wr.cell? ⟨g, i * 5 + 4, none⟩ = some (.slice aoe x.r.es.length cape) := by rw [hgb.cell, hev, Hev.out]
        have e3 : wr.cell? ⟨g, i * 5 + 3, none⟩ = some u3 := by rw [hgb.cell, hu3]
        have f3 := hgb.frozen (i * 5 + 3)
        have hlg := hgb.lt
        clear hev hu3 hcp
        by_cases hlt2 : j < x.r.es.length
        · have hjl : (j : Int) < (x.r.es.length : Int) := by omega
          have hrm := hR.2 x hxm
          rw [Hev.out] at hrm
          obtain ⟨b, ce, cpe, hve, hcpe, hb1, hb2, hbb, hcell⟩ := hrm.at_ hlt2
          cases hve
          obtain ⟨v0, hv0⟩ := hcell 0 (by omega)
          obtain ⟨v1, hv1⟩ := hcell 1 (by omega)
          obtain ⟨v2, hv2⟩ := hcell 2 (by omega)
          have y0 : wr.cell? ⟨b, j * 3, none⟩ = some v0 := by rw [hbb.cell]; exact hv0
          have y1 : wr.cell? ⟨b, j * 3 + 1, none⟩ = some v1 := by rw [hbb.cell]; exact hv1
          have y2 : wr.cell? ⟨b, j * 3 + 2, none⟩ = some v2 := by rw [hbb.cell]; exact hv2
          have hfz := hbb.frozen
          have hlbb := hbb.lt
          clear hcell hv0 hv1 hv2 f3 e3 hset
          go_wp2
          go_roundw
          case rel =>
            have hT : 101 ≠ 103 := by decide
            refine ⟨j + 1, by go_num, hlt2, ?_, ?_, ?_, ?_⟩
            · exact ((hK.setCell (p := ⟨b, j * 3, none⟩) (.inl ⟨hb1, hb2⟩) _).setCell (p := ⟨b, j * 3 + 1, none⟩) (.inl ⟨hb1, hb2⟩) _).setCell (p := ⟨b, j * 3 + 2, none⟩) (.inl ⟨hb1, hb2⟩) _
            · exact ((hL.set b _ _).set b _ _).set b _ _
            · exact ((hS.set b _ _).set b _ _).set b _ _
            · exact ((hR.other hbb hT _).other (hbb.set _ _) hT _).other ((hbb.set _ _).set _ _) hT _
          case measure => simp [intOf]; omega
        · have hfz := hgb.frozen
          go_wp2
          go_roundw
          case rel =>
            refine ⟨i + 1, by go_num, hlt, ?_, hL.set g _ _, hS.set g _ _, hset _⟩
            exact hK.setCell (p := ⟨g, i * 5 + 3, none⟩) (.inl ⟨hg1, hg2⟩) _
          case measure => simp [intOf]; omega
    · go_wp2
      clear p4 hlb hbx
      go_loopw [4] (fun s4 wr => ∃ i : Nat, s4 = .int .i64 i ∧ i ≤ m.links.length ∧ KeptF (fun i => lo ≤ i ∧ i < hi) W0 wr ∧ Room 94 3 lo hi wr (.slice ao1 m.links.length cap1) m.links.length ∧ Room 73 3 lo hi wr (.slice ao2 m.starts.length cap2) m.starts.length) (fun s4 _ => m.links.length - (intOf s4).toNat)
      case atStart => exact ⟨0, rfl, Nat.zero_le _, hK, hL, hS⟩
      case round =>
        clear hK hL hS hR
        obtain ⟨j, rfl, hj, hK, hL, hS⟩ := hrel
        have hbx := hmb.keep hK (by omega)
        have p3 : wr.cell? ⟨w.heap.size, 3, none⟩ = some (.slice ao1 m.links.length cap1) := hbx.cell 3
        have hlb := hbx.lt
        by_cases hlt2 : j < m.links.length
        · have hjl : (j : Int) < (m.links.length : Int) := by omega
          obtain ⟨b, ce, cpe, hve, hcpe, hb1, hb2, hbb, hcell⟩ := hL.at_ hlt2
          cases hve
          obtain ⟨v1, hv1⟩ := hcell 1 (by omega)
          obtain ⟨v2, hv2⟩ := hcell 2 (by omega)
          have y1 : wr.cell? ⟨b, j * 3 + 1, none⟩ = some v1 := by rw [hbb.cell]; exact hv1
          have y2 : wr.cell? ⟨b, j * 3 + 2, none⟩ = some v2 := by rw [hbb.cell]; exact hv2
          have hfz := hbb.frozen
          have hlbb := hbb.lt
          have hne : b ≠ w.heap.size := by omega
          clear hcell hv1 hv2
          go_wp2
          go_roundw
          case rel =>
            refine ⟨j + 1, by go_num, hlt2, ?_, (hL.set b _ _).set b _ _, (hS.set b _ _).set b _ _⟩
            exact (hK.setCell (p := ⟨b, j * 3 + 2, none⟩) (.inl ⟨hb1, hb2⟩) _).setCell (p := ⟨b, j * 3 + 1, none⟩) (.inl ⟨hb1, hb2⟩) _
          case measure => simp [intOf]; omega
        · go_wp2
          clear p3 hlb hbx
          go_loopw [5] (fun s5 wr => ∃ i : Nat, s5 = .int .i64 i ∧ i ≤ m.starts.length ∧ KeptF (fun i => lo ≤ i ∧ i < hi) W0 wr ∧ Room 73 3 lo hi wr (.slice ao2 m.starts.length cap2) m.starts.length) (fun s5 _ => m.starts.length - (intOf s5).toNat)
          case atStart => exact ⟨0, rfl, Nat.zero_le _, hK, hS⟩
          case round =>
            clear hK hL hS
            obtain ⟨j, rfl, hj, hK, hS⟩ := hrel
            have hbx := hmb.keep hK (by omega)
            have p5 : wr.cell? ⟨w.heap.size, 5, none⟩ = some (.slice ao2 m.starts.length cap2) := hbx.cell 5
            have hlb := hbx.lt
            by_cases hlt2 : j < m.starts.length
            · have hjl : (j : Int) < (m.starts.length : Int) := by omega
              obtain ⟨b, ce, cpe, hve, hcpe, hb1, hb2, hbb, hcell⟩ := hS.at_ hlt2
              cases hve
              obtain ⟨v1, hv1⟩ := hcell 1 (by omega)
              have y1 : wr.cell? ⟨b, j * 3 + 1, none⟩ = some v1 := by rw [hbb.cell]; exact hv1
              have hfz := hbb.frozen
              have hlbb := hbb.lt
              clear hcell hv1
              go_wp2
              go_roundw
              case rel => exact ⟨j + 1, by go_num, hlt2, hK.setCell (p := ⟨b, j * 3 + 1, none⟩) (.inl ⟨hb1, hb2⟩) _, hS.set b _ _⟩
              case measure => simp [intOf]; omega
            · go_wp2
              exact bodyPost_end (results_none rfl _ _ _) rfl ⟨rfl, hK0.trans hK⟩

end Go.Proofs.Ytaieackeflmhgaa

namespace Go.Proofs.Ytaieackeflmhgaa
open Go.RowKit Go.Sort Go.Maps

set_option maxRecDepth 100000 in
set_option maxHeartbeats 4000000 in
theorem alike_any (w : World) (B : Nat) (va vb : Value) (l : List Dn) (ha : RowsAt 5 dnC w B va l) (hb : RowsAt 5 dnC w B vb l) (hB : B ≤ w.heap.size) (hl : l.length ≤ 5000) :
    Calls Try.prog 24 #[va, vb] w fun e w' => e = .returned (.bool true) ∧ Below w.heap.size w w' := by
  obtain ⟨aoa, capa, rfl, hcapa⟩ := RowsAt.form ha
  obtain ⟨aob, capb, rfl, hcapb⟩ := RowsAt.form hb
  go_enter Try.func24, Try.ntmps24
  go_wp2
  go_loopw [5] (fun s5 wr => ∃ i : Nat, s5 = .int .i64 i ∧ i ≤ l.length ∧ Below w.heap.size w wr) (fun s5 _ => l.length - (intOf s5).toNat)
  case atStart => exact ⟨0, rfl, Nat.zero_le _, Below.refl _ _⟩
  case round =>
    obtain ⟨i, rfl, hi, hbw⟩ := hrel
    by_cases hlt : i < l.length
    · obtain ⟨x, hx⟩ := get_of_lt hlt
      obtain ⟨ba, oa, haa, hbaB, hca⟩ := RowsAt.at_ (ha.keep (hbw.mono hB)) hx
      obtain ⟨bb, ob, hab, hbbB, hcb⟩ := RowsAt.at_ (hb.keep (hbw.mono hB)) hx
      subst haa hab
      have a0 := cell_regrown (hca 0 (.int .i64 x.it.t) rfl)
      have a1 := cell_regrown (hca 1 (.int .i64 x.it.f) rfl)
      have a2 := cell_regrown (hca 2 (.int .i64 x.it.s) rfl)
      have a3 := cell_regrown (hca 3 (.int .i64 x.it.l) rfl)
      have a4 := cell_regrown (hca 4 (.int .i64 x.st) rfl)
      have c0 := cell_regrown (hcb 0 (.int .i64 x.it.t) rfl)
      have c1 := cell_regrown (hcb 1 (.int .i64 x.it.f) rfl)
      have c2 := cell_regrown (hcb 2 (.int .i64 x.it.s) rfl)
      have c3 := cell_regrown (hcb 3 (.int .i64 x.it.l) rfl)
      have c4 := cell_regrown (hcb 4 (.int .i64 x.st) rfl)
      simp only [Nat.add_zero] at a0 c0
      have hil : (i : Int) < l.length := by omega
      clear hca hcb hx
      go_upto_region 6 with fail
      refine wp_region_quiet_below (by kernel_rfl) (by kernel_rfl) ?_
      repeat (quiet_step (fail))
      refine wpQuiet_nil ?_
      intro wq hw'
      have hbq := below_of_regrown hw'
      clear hw' a0 a1 a2 a3 a4 c0 c1 c2 c3 c4
      go_wp2
      go_roundw
      case rel => exact ⟨i + 1, by go_num, hlt, hbw.trans (hbq.mono hbw.size)⟩
      case measure => simp [intOf]; omega
    · go_wp2
      go_ret
      exact ⟨rfl, hbw⟩

end Go.Proofs.Ytaieackeflmhgaa

namespace Go.Proofs.Ytaieackeflmhgaa
open Go.RowKit Go.Sort Go.Maps

theorem owns_some {w : World} {base : Nat} {e : TypeId} {size : Nat} {v : Value} {n : Nat} {xs : List Value} (h : w.ownsRow base e size v (n + 1) xs) : ∃ g cap, v = .slice (some ⟨g, 0, none⟩) (n + 1) cap := by
  rcases h.2 with ⟨_, h2⟩ | ⟨g, cap, _, h1, _⟩
  · omega
  · exact ⟨g, cap, h1⟩

set_option maxRecDepth 100000 in
set_option maxHeartbeats 8000000 in
theorem seen_any (w : World) (nb : Nat) (m : Mdl) (en : Int) (s : NS) (V : NV) (p : Nat) (a : NP) (lv : Value) (l : List Dn) (h : NetAt w nb m en s V) (hm : Right m) (hdl : ∀ (i : Nat) (b : NP), s.ps[i]? = some b → b.dn.length ≤ 5000) (hp : p < np m) (ha : s.ps[p]? = some a) (hl : RowsAt 5 dnC w w.heap.size lv l) (hpre : l.take a.dn.length = a.dn) :
    Calls Try.prog 36 #[.pointer (some ⟨nb, 0, none⟩), .int .i64 p, lv] w fun e w' => e = .returned (.bool true) ∧ Below w.heap.size w w' := by
  obtain ⟨aol, capl, hlv, hcapl⟩ := RowsAt.form hl
  subst hlv
  have hle : a.dn.length ≤ l.length := by
    have := congrArg List.length hpre
    rw [List.length_take] at this
    omega
  have hadl := hdl p a ha
  have hpi : isP m (p : Int) = true := isP_iff.2 ⟨by omega, by unfold np at hp; omega⟩
  obtain ⟨j0, hj0, hy0, hy1, hy2⟩ := info_parts info_dp
  have hsee := see_on w nb m en s V (p : Int) h hm hdl
  obtain ⟨n, hn⟩ : ∃ n, n = a.dn.length := ⟨_, rfl⟩
  have Hn : Hid (n = a.dn.length) := hn
  have Hpre : Hid (l.take n = a.dn) := by rw [hn]; exact hpre
  have Ha : Hid (s.ps[p]? = some a) := ha
  have Hpi : Hid (isP m (p : Int) = true) := hpi
  rw [← hn] at hle hadl
  clear hn hpre ha hpi
  go_enter Try.func36, Try.ntmps36
  go_wp2_with fail
  refine hsee.mono ?_
  rintro e1 w1 ⟨hb1, ⟨hx, _⟩ | ⟨_, _, a', ao, ha', rfl, hr1⟩⟩
  · rw [Hpi.out] at hx; cases hx
  clear hsee
  rw [Int.toNat_natCast, Ha.out] at ha'
  cases ha'
  have hlen : a.dn.length = n := Hn.out.symm
  rw [hlen] at hr1 ⊢
  clear hlen
  have hrm := hr1.room
  rw [← Hn.out] at hrm
  have hnone : ao = none → n = 0 ∧ n = 0 := fun e => by
    obtain ⟨ao', h1, h2, _⟩ := hr1
    simp only [Value.slice.injEq] at h1
    have := h2 (h1.1 ▸ e)
    have h3 := Hn.out
    rw [this] at h3
    exact ⟨h3, h3⟩
  have hcc := newCells w1 [.int .i64 (-1), .int .i64 0, .int .i64 0, .int .i64 0, .int .i64 0] 69
  have hb2 : Below w1.heap.size w1 (w1.alloc (.cells #[.int .i64 (-1), .int .i64 0, .int .i64 0, .int .i64 0, .int .i64 0] 69)) := (Below.refl _ _).alloc (Nat.le_refl _) _
  have holds : ∀ b, ao = some b → ∀ j u, (flat dpE a.dn)[j]? = some u → (w1.alloc (.cells #[.int .i64 (-1), .int .i64 0, .int .i64 0, .int .i64 0, .int .i64 0] 69)).cell? (b.add j) = some u := fun b hb j u hu => by
    subst hb
    by_cases hnil : a.dn = []
    · rw [hnil] at hu; simp [flat] at hu
    · obtain ⟨ao', h1, _, h3⟩ := hr1
      simp only [Value.slice.injEq] at h1
      obtain ⟨g, c, h4, _, h6, h7, h8⟩ := h3 hnil
      have e1 : b = ⟨g, 0, none⟩ := by
        have := h1.1.symm.trans rfl
        rw [h4] at this
        exact (Option.some.inj this).symm
      subst e1
      rw [Addr.add_lit, Nat.zero_add, hb2.cell (p := ⟨g, j, none⟩) h6, h7.cell]
      have hj := get_lt hu
      rw [flat_length] at hj
      have hj5 : j < a.dn.length * 5 := hj
      obtain ⟨x, hx⟩ := get_of_lt (d := a.dn) (k := j / 5) (by omega)
      have h9 : (flat dpE a.dn)[j / 5 * 5 + j % 5]? = (dnC x)[j % 5]? := flat_get dpE a.dn (j / 5) x (j % 5) hx (show j % 5 < 5 by omega)
      rw [show j / 5 * 5 + j % 5 = j by omega] at h9
      rw [h9] at hu
      have h10 := h8 (j / 5) x (j % 5) u hx hu
      rw [show j / 5 * 5 + j % 5 = j by omega] at h10
      exact h10
  have hflen : (flat dpE a.dn).length = n * 5 := by rw [flat_length, Hn.out]; rfl
  clear hr1
  go_wp2_with (at_builtin; refine wpList_append_grows _ rfl (.tmp 21) (.tmp 23) 60 rfl 69 j0 _ 5 40 Try.underlying60 hj0 hy0 hy1 hy2 rfl (by decide) ao n n (flat dpE a.dn) rfl hnone hflen ?olds ⟨w1.heap.size, 0, none⟩ 1 1 [.int .i64 (-1), .int .i64 0, .int .i64 0, .int .i64 0, .int .i64 0] rfl rfl ?cells ?one ?full ?b1 ?b2 ?k)
  case olds => exact holds
  case cells => exact fun j u hu => hcc j u hu
  case one => intro u hu; simp only [List.mem_cons, List.not_mem_nil, or_false] at hu; rcases hu with rfl | rfl | rfl | rfl | rfl <;> rfl
  case full => omega
  case b1 => unfold maxLen; omega
  case b2 => omega
  case k =>
    intro v2 w2 hown2 hgr2
    obtain ⟨gg, cg, hv2⟩ := owns_some hown2
    subst hv2
    have hb3 : Below w1.heap.size w1 w2 := hb2.trans (KeptF.below (F := fun _ => False) (KeptF.of_grown hgr2 (fun k e _ => by cases e)) hb2.size (fun i hi => hi.elim))
    clear hown2 hgr2 hcc hb2 holds hflen hnone hj0 hy0 hy1 hy2
    replace hrm := hrm.keep (kept_of_below' hb3) (fun _ _ _ e => e)
    have hbw : Below w.heap.size w w2 := hb1.trans (hb3.mono hb1.size)
    obtain ⟨hi, hhi⟩ : ∃ hi, hi = w1.heap.size := ⟨_, rfl⟩
    rw [← hhi] at hrm
    clear hb3 hb1 hhi
    go_wp2
    go_loopw [10] (fun s10 wr => ∃ j : Nat, s10 = .int .i64 j ∧ j ≤ n ∧ Room 69 5 w.heap.size hi wr (.slice ao n n) n ∧ Below w.heap.size w wr ∧ ∀ g, ao = some ⟨g, 0, none⟩ → ∀ k, k < j → wr.cell? ⟨g, k * 5, none⟩ = some (.int .i64 (-2))) (fun s10 _ => n - (intOf s10).toNat)
    case atStart => exact ⟨0, rfl, Nat.zero_le _, hrm, hbw, fun g _ k hk => by omega⟩
    case round =>
      clear hrm hbw
      obtain ⟨j, rfl, hj, hrm, hbw, hmk⟩ := hrel
      by_cases hlt : j < n
      · have hjl : (j : Int) < (n : Int) := by omega
        obtain ⟨g, c, cp, hv, hcp, hg1, hg2, hgb, hcell⟩ := hrm.at_ hlt
        cases hv
        obtain ⟨u0, hu0⟩ := hcell 0 (by omega)
        have y0 : wr.cell? ⟨g, j * 5, none⟩ = some u0 := by rw [hgb.cell]; exact hu0
        have hfz := hgb.frozen
        have hlg := hgb.lt
        clear hcell hu0 hcp
        go_wp2
        go_roundw
        case rel =>
          refine ⟨j + 1, by go_num, hlt, hrm.set g _ _, hbw.setCell (p := ⟨g, j * 5, none⟩) hg1 _, fun g' hg' k hk => ?_⟩
          cases hg'
          have hb' := hgb.set (j * 5) (.int .i64 (-2))
          rw [hb'.cell]
          by_cases e : k = j
          · subst e
            rw [hgb.cell] at y0
            exact Array.getElem?_setIfInBounds_self_of_lt (Array.getElem?_eq_some_iff.1 y0).1
          · rw [Array.getElem?_setIfInBounds_ne (by omega), ← hgb.cell]
            exact hmk g rfl k (by omega)
        case measure => simp [intOf]; omega
      · have hje : j = n := by omega
        subst hje
        have hsee := see_on wr nb m en s V (p : Int) (h.grow (kept_of_below' hbw)) hm hdl
        go_wp2_with fail
        refine hsee.mono ?_
        rintro e3 w3 ⟨hb3, ⟨hx, _⟩ | ⟨_, _, a', ao3, ha', rfl, hr3⟩⟩
        · rw [Hpi.out] at hx; cases hx
        clear hsee
        rw [Int.toNat_natCast, Ha.out] at ha'
        cases ha'
        have hlen : a.dn.length = j := Hn.out.symm
        rw [hlen] at hr3 ⊢
        clear hlen
        have hbw3 : Below w.heap.size w w3 := hbw.trans (hb3.mono hbw.size)
        have hmk3 : ∀ g, ao = some ⟨g, 0, none⟩ → ∀ k, k < j → w3.cell? ⟨g, k * 5, none⟩ = some (.int .i64 (-2)) := fun g hg k hk => by
          have h1 := hmk g hg k hk
          rw [hb3.cell (p := ⟨g, k * 5, none⟩) (block_lt_of_cell h1)]
          exact h1
        have haosome : 0 < j → ∃ g, ao = some ⟨g, 0, none⟩ := fun h0 => by
          obtain ⟨g, _, _, hv, _⟩ := hrm.at_ h0
          cases hv
          exact ⟨g, rfl⟩
        have hgt : ¬ (l.length : Int) < (j : Int) := by omega
        clear hrm hmk hbw
        go_wp2
        go_loopw [13] (fun s13 wr => ∃ i : Nat, s13 = .int .i64 i ∧ i ≤ j ∧ wr = w3) (fun s13 _ => j - (intOf s13).toNat)
        case atStart => exact ⟨0, rfl, Nat.zero_le _, rfl⟩
        case round =>
          obtain ⟨i, rfl, hi', hwr⟩ := hrel
          subst hwr
          by_cases hlt2 : i < j
          · have hil : (i : Int) < (j : Int) := by omega
            obtain ⟨g, hg⟩ := haosome (by omega)
            have y0 := hmk3 g hg i hlt2
            have hlg : g < wr.heap.size := block_lt_of_cell y0
            subst hg
            go_wp2
            go_roundw
            case rel => exact ⟨i + 1, by go_num, hlt2, trivial⟩
            case measure => simp [intOf]; omega
          · have hrl := ((hl.keep hbw3).mono hbw3.size).take j hle
            rw [Hpre.out] at hrl
            have hal := alike_any wr wr.heap.size _ _ a.dn hr3.rows.at hrl (Nat.le_refl _) (by have := Hn.out; omega)
            have hjc : (j : Int) ≤ (capl : Int) := by omega
            go_wp2_with fail
            refine hal.mono ?_
            rintro e4 w4 ⟨rfl, hb4⟩
            clear hal
            go_wp2
            go_ret
            exact ⟨rfl, hbw3.trans (hb4.mono hbw3.size)⟩

end Go.Proofs.Ytaieackeflmhgaa

namespace Go.Proofs.Ytaieackeflmhgaa
open Go.RowKit Go.Sort Go.Maps

/-- of a row the first n have been marked -/
def Mark (w : World) (v : Value) (n : Nat) : Prop := ∀ g len cap, v = .slice (some ⟨g, 0, none⟩) len cap → ∀ j, j < n → w.cell? ⟨g, j * 5, none⟩ = some (.int .i64 (-7))
theorem Mark.set {w : World} {v : Value} {n : Nat} (h : Mark w v n) (g o : Nat) : Mark (w.setCell ⟨g, o, none⟩ (.int .i64 (-7))) v n := by
  intro g' len cap hv j hj
  have h1 := h g' len cap hv j hj
  by_cases e : (⟨g', j * 5, none⟩ : Addr) = ⟨g, o, none⟩
  · rw [e] at h1 ⊢
    exact World.cell?_setCell_same' w _ _ (by rw [h1]; rfl)
  · rw [World.cell?_setCell_other _ _ _ _ (fun e' => e e'.symm)]
    exact h1
theorem Mark.keep {F : Nat → Prop} {w w' : World} {v : Value} {n : Nat} (h : Mark w v n) (k : KeptF F w w') (hF : ∀ g len cap, v = .slice (some ⟨g, 0, none⟩) len cap → ¬ F g) : Mark w' v n := by
  intro g len cap hv j hj
  have h1 := h g len cap hv j hj
  rw [k.cell (p := ⟨g, j * 5, none⟩) (block_lt_of_cell h1) (hF g len cap hv)]
  exact h1

/-- what Run answered, spoilt: the rows of the processes below i, and of the next one j entries; the states of those below i2 -/
structure Spoilt (lo hi sb lb : Nat) (n : Nat) (L : List Value) (D : List (List Dn)) (w : World) (i2 i j : Nat) : Prop where
  st : ∃ c : Array Value, Blk w sb c 3 ∧ c.size = n ∧ ∀ p, p < i2 → c[p]? = some (.int .i64 (-7))
  ls : Blk w lb L.toArray 60
  rm : ∀ (p : Nat) (v : Value) (l : List Dn), L[p]? = some v → D[p]? = some l → Room 69 5 lo hi w v l.length
  mks : ∀ (p : Nat) (v : Value) (l : List Dn), L[p]? = some v → D[p]? = some l → p < i → Mark w v l.length
  mj : ∀ (v : Value), L[i]? = some v → Mark w v j

section
variable {lo hi sb lb n : Nat} {L : List Value} {D : List (List Dn)} {w w' : World} {i2 i j : Nat}
theorem Spoilt.keep {F : Nat → Prop} (h : Spoilt lo hi sb lb n L D w i2 i j) (k : KeptF F w w') (hF : ∀ i, i < w.heap.size → ¬ F i) : Spoilt lo hi sb lb n L D w' i2 i j := by
  obtain ⟨c, h1, h2, h3⟩ := h.st
  have hm : ∀ {v : Value} {n : Nat}, Mark w v n → Mark w' v n := fun {v n} h1 g len cap hv j hj => by
    have h2 := h1 g len cap hv j hj
    rw [k.cell (p := ⟨g, j * 5, none⟩) (block_lt_of_cell h2) (hF _ (block_lt_of_cell h2))]
    exact h2
  refine ⟨⟨c, h1.keep k (hF _ h1.lt), h2, h3⟩, h.ls.keep k (hF _ h.ls.lt), fun p v l h4 h5 => ?_, fun p v l h4 h5 h6 => hm (h.mks p v l h4 h5 h6), fun v h4 => hm (h.mj v h4)⟩
  obtain ⟨ao, cap, h6, h7, h8⟩ := h.rm p v l h4 h5
  refine ⟨ao, cap, h6, h7, fun hn => ?_⟩
  obtain ⟨g, c', h9, h10, h11, h12, h13⟩ := h8 hn
  exact ⟨g, c', h9, h10, h11, h12.keep k (hF _ h12.lt), h13⟩
/-- the next state -/
theorem Spoilt.state (h : Spoilt lo hi sb lb n L D w i i 0) (hi' : i < n) : Spoilt lo hi sb lb n L D (w.setCell ⟨sb, i, none⟩ (.int .i64 (-7))) (i + 1) i 0 := by
  obtain ⟨c, h1, h2, h3⟩ := h.st
  refine ⟨⟨_, h1.set i _, by rw [Array.size_setIfInBounds]; exact h2, fun p hp => ?_⟩, h.ls.set_other (a := ⟨sb, i, none⟩) (h.ls.type h1 (by decide)) _, fun p v l h4 h5 => (h.rm p v l h4 h5).set sb i _, fun p v l h4 h5 h6 => (h.mks p v l h4 h5 h6).set sb i, fun v h4 => (h.mj v h4).set sb i⟩
  by_cases e : p = i
  · subst e; exact Array.getElem?_setIfInBounds_self_of_lt (by omega)
  · rw [Array.getElem?_setIfInBounds_ne (by omega)]
    exact h3 p (by omega)
/-- the next entry -/
theorem Spoilt.entry (h : Spoilt lo hi sb lb n L D w i2 i j) {v : Value} {g len cap : Nat} {c : Array Value} (hv : L[i]? = some v) (hvf : v = .slice (some ⟨g, 0, none⟩) len cap) (hb : Blk w g c 69) {u : Value} (hc : c[j * 5]? = some u) : Spoilt lo hi sb lb n L D (w.setCell ⟨g, j * 5, none⟩ (.int .i64 (-7))) i2 i (j + 1) := by
  obtain ⟨c', h1, h2, h3⟩ := h.st
  refine ⟨⟨c', h1.set_other (a := ⟨g, j * 5, none⟩) (h1.type hb (by decide)) _, h2, h3⟩, h.ls.set_other (a := ⟨g, j * 5, none⟩) (h.ls.type hb (by decide)) _, fun p v l h4 h5 => (h.rm p v l h4 h5).set g _ _, fun p v l h4 h5 h6 => (h.mks p v l h4 h5 h6).set g _, fun v' h4 => ?_⟩
  rw [hv] at h4
  cases h4
  intro g' len' cap' hv' k hk
  rw [hvf] at hv'
  cases hv'
  by_cases e : k = j
  · subst e
    rw [(hb.set (k * 5) _).cell]
    exact Array.getElem?_setIfInBounds_self_of_lt (Array.getElem?_eq_some_iff.1 hc).1
  · exact (h.mj v hv).set g (j * 5) g len cap hvf k (by omega)
/-- the next process -/
theorem Spoilt.next (h : Spoilt lo hi sb lb n L D w (i + 1) i j) (hj : ∀ v l, L[i]? = some v → D[i]? = some l → l.length ≤ j) : Spoilt lo hi sb lb n L D w (i + 1) (i + 1) 0 :=
  ⟨h.st, h.ls, h.rm, fun p v l h1 h2 h3 => by
    by_cases e : p = i
    · subst e
      intro g len cap hv k hk
      exact h.mj v h1 g len cap hv k (by have := hj v l h1 h2; omega)
    · exact h.mks p v l h1 h2 (by omega), fun v _ g len cap _ k hk => by omega⟩
end

set_option maxRecDepth 100000 in
set_option maxHeartbeats 8000000 in
theorem left_any (w : World) (m : Mdl) (lv rv sv : Value) (R : List RuleV) (Bm : Nat) (en : Int) (h : ModelAt w Bm lv rv sv m R) (hBm : Bm ≤ w.heap.size) (ha : answer m en = (0, 0))
    (b1 : m.links.length * 24 ≤ 140737488351232) (b2 : m.rules.length * 56 ≤ 140737488351232) (b3 : m.starts.length * 24 ≤ 140737488351232) (b4 : ∀ r ∈ m.rules, r.es.length * 24 ≤ 140737488351232) :
    Calls Try.prog 37 #[.agg #[.int .i64 m.procs, .int .i64 m.states, .int .i64 m.loads, lv, rv, sv], .int .i64 en] w fun e w' => e = .returned (.bool true) ∧ Below w.heap.size w w' := by
  have hne : ∀ r ∈ m.rules, r.es.length ≤ 5864062014634 := fun r hr => by have := b4 r hr; omega
  obtain ⟨W0, hW0⟩ : ∃ W0, W0 = w.alloc (.cells #[.int .i64 m.procs, .int .i64 m.states, .int .i64 m.loads, lv, rv, sv] 26) := ⟨_, rfl⟩
  have HW0 : Hid (W0 = w.alloc (.cells #[.int .i64 m.procs, .int .i64 m.states, .int .i64 m.loads, lv, rv, sv] 26)) := hW0
  have hB0 : Below w.heap.size w W0 := by rw [hW0]; exact (Below.refl _ _).alloc (Nat.le_refl _) _
  have hmb : Blk W0 w.heap.size #[.int .i64 m.procs, .int .i64 m.states, .int .i64 m.loads, lv, rv, sv] 26 := by rw [hW0]; exact heap_alloc_new w _
  have hmade := made_any m lv rv sv R Bm W0 (h.keep (hB0.mono hBm)) (Nat.le_trans hBm hB0.size) b1 b2 b3 b4
  clear hW0
  have k0 : W0.cell? ⟨w.heap.size, 0, none⟩ = some (.int .i64 m.procs) := hmb.cell 0
  have k1 : W0.cell? ⟨w.heap.size, 1, none⟩ = some (.int .i64 m.states) := hmb.cell 1
  have k2 : W0.cell? ⟨w.heap.size, 2, none⟩ = some (.int .i64 m.loads) := hmb.cell 2
  have k3 : W0.cell? ⟨w.heap.size, 3, none⟩ = some lv := hmb.cell 3
  have k4 : W0.cell? ⟨w.heap.size, 4, none⟩ = some rv := hmb.cell 4
  have k5 : W0.cell? ⟨w.heap.size, 5, none⟩ = some sv := hmb.cell 5
  have hlm := hmb.lt
  have Ha : Hid (answer m en = (0, 0)) := ha
  clear ha
  go_enter Try.func37, Try.ntmps37
  go_upto_region 1 with fail
  rw [← HW0.out]
  clear HW0
  go_wp2_with fail
  refine hmade.mono ?_
  rintro e1 w1 ⟨lv', rv', sv', R', rfl, hM', g1⟩
  clear hmade k0 k1 k2 k3 k4 k5
  obtain ⟨a1, c1, hf1, _⟩ := RowsAt.form hM'.links
  obtain ⟨a2, c2, hf2, _⟩ := RowsAt.form hM'.rules.1
  obtain ⟨a3, c3, hf3, _⟩ := RowsAt.form hM'.starts
  subst hf1 hf2 hf3
  obtain ⟨WA, hWA⟩ : ∃ WA, WA = w1.alloc (.cells #[.int .i64 m.procs, .int .i64 m.states, .int .i64 m.loads, (.slice a1 m.links.length c1), (.slice a2 R'.length c2), (.slice a3 m.starts.length c3)] 31) := ⟨_, rfl⟩
  have HWA : Hid (WA = w1.alloc (.cells #[.int .i64 m.procs, .int .i64 m.states, .int .i64 m.loads, (.slice a1 m.links.length c1), (.slice a2 R'.length c2), (.slice a3 m.starts.length c3)] 31)) := hWA
  have hbA : Below w1.heap.size w1 WA := by rw [hWA]; exact (Below.refl _ _).alloc (Nat.le_refl _) _
  have hkb : Blk WA w1.heap.size #[.int .i64 m.procs, .int .i64 m.states, .int .i64 m.loads, (.slice a1 m.links.length c1), (.slice a2 R'.length c2), (.slice a3 m.starts.length c3)] 31 := by rw [hWA]; exact heap_alloc_new w1 _
  clear hWA
  have hMA := hM'.keep hbA
  have hbwA : Below w.heap.size w WA := hB0.trans ((g1.mono hB0.size).trans (hbA.mono (Nat.le_trans hB0.size g1.size)))
  have j0 : WA.cell? ⟨w1.heap.size, 0, none⟩ = some (.int .i64 m.procs) := hkb.cell 0
  have j1 : WA.cell? ⟨w1.heap.size, 1, none⟩ = some (.int .i64 m.states) := hkb.cell 1
  have j2 : WA.cell? ⟨w1.heap.size, 2, none⟩ = some (.int .i64 m.loads) := hkb.cell 2
  have j3 : WA.cell? ⟨w1.heap.size, 3, none⟩ = some (.slice a1 m.links.length c1) := hkb.cell 3
  have j4 : WA.cell? ⟨w1.heap.size, 4, none⟩ = some (.slice a2 R'.length c2) := hkb.cell 4
  have j5 : WA.cell? ⟨w1.heap.size, 5, none⟩ = some (.slice a3 m.starts.length c3) := hkb.cell 5
  have hlk := hkb.lt
  have hr1 := run_on m (.slice a1 m.links.length c1) (.slice a2 R'.length c2) (.slice a3 m.starts.length c3) R' w1.heap.size en WA hMA hbA.size hne
  go_upto_region 2 with fail
  rw [← HWA.out]
  clear HWA
  go_wp2_with fail
  refine hr1.mono ?_
  rintro e2 w2 ⟨g2, ⟨hno, _⟩ | ⟨_, sb, lb, k, L, rfl, hRun⟩⟩
  · exact absurd Ha.out hno
  clear hr1 j0 j1 j2 j3 j4 j5
  obtain ⟨hv, hFew⟩ := answer_zero Ha.out
  obtain ⟨hRt, hen0, hen⟩ := right_of_valid hv
  have hI := atK_inv hRt hen k
  have hall : (atK m en k).all ≤ 300 := by
    obtain ⟨k', hk', hnk'⟩ := hFew
    rw [atK_end hRun.stop hnk']
    exact Nat.le_trans (atK_all m en k') hk'
  have hp1 := hRt.lim.p1
  have hp2 := hRt.lim.p2
  obtain ⟨n, hn⟩ : ∃ n, n = np m := ⟨_, rfl⟩
  have hn6 : n ≤ 6 := by rw [hn]; unfold np; omega
  obtain ⟨D, hD⟩ : ∃ D, D = (atK m en k).done := ⟨_, rfl⟩
  have hDl : D.length = n := by rw [hD, hI.ld, hn]
  have hd5 : ∀ (p : Nat) (l : List Dn), D[p]? = some l → l.length ≤ 5000 := fun p l hl => by
    have := hI.dl p l (by rw [← hD]; exact hl)
    omega
  have hLl : L.length = n := by rw [hn]; exact hRun.len
  obtain ⟨lo, hlo⟩ : ∃ lo, lo = WA.heap.size := ⟨_, rfl⟩
  obtain ⟨hi, hhi⟩ : ∃ hi, hi = w2.heap.size := ⟨_, rfl⟩
  have hsp0 : Spoilt lo hi sb lb n L D w2 0 0 0 := by
    refine ⟨⟨_, hRun.st, ?_, fun p hp => by omega⟩, hRun.ls, fun p v l h1 h2 => ?_, fun p v l _ _ hp => by omega, fun v _ g len cap _ j hj => by omega⟩
    · rw [hn, ← hI.ls]; simp [ints]
    · rw [hlo, hhi]
      rw [hD] at h2
      exact (hRun.rows p v l h1 h2).room
  have hsl : lo ≤ sb ∧ sb < hi := by rw [hlo, hhi]; exact hRun.lows
  have hlol : w1.heap.size < lo := by rw [hlo]; exact hlk
  have hhi2 : hi ≤ w2.heap.size := by omega
  have hwlo : w.heap.size ≤ w1.heap.size := Nat.le_trans hB0.size g1.size
  have hbw2 : Below w.heap.size w w2 := hbwA.trans (g2.mono hbwA.size)
  have hMw2 := hMA.keep (g2.mono hbA.size)
  have hk2 := hkb.keep (kept_of_below' g2) (fun e => e)
  have HDl : Hid (D.length = n) := hDl
  have HLl : Hid (L.length = n) := hLl
  have Hnm : Hid (n = np m) := hn
  rw [← hn]
  clear hn hD hDl hLl hRun hlo hhi hkb g2 hMA hbwA hbA g1 hM' hB0 hmb hlm hlk hv hFew hI hall
  go_wp2
  go_loopw [10] (fun s10 wr => ∃ i : Nat, s10 = .int .i64 i ∧ i ≤ n ∧ Spoilt lo hi sb lb n L D wr i i 0 ∧ KeptF (fun k => lo ≤ k ∧ k < hi) w2 wr) (fun s10 _ => n - (intOf s10).toNat)
  case atStart => exact ⟨0, rfl, Nat.zero_le _, hsp0, KeptF.refl _ _⟩
  case round =>
    clear hsp0
    obtain ⟨i, rfl, hi', hsp, hK⟩ := hrel
    by_cases hlt : i < n
    · have hil : (i : Int) < (n : Int) := by omega
      obtain ⟨c, hcb, hcs, hcm⟩ := hsp.st
      have y0 : wr.cell? ⟨sb, i, none⟩ = some (c[i]'(by omega)) := by rw [hcb.cell]; exact Array.getElem?_eq_getElem _
      obtain ⟨u0, hu0⟩ : ∃ u0, u0 = (c[i]'(by omega)) := ⟨_, rfl⟩
      rw [← hu0] at y0
      have hfz := hcb.frozen
      have hls := hcb.lt
      have hsp1 := hsp.state hlt
      have hK1 : KeptF (fun k => lo ≤ k ∧ k < hi) w2 (wr.setCell ⟨sb, i, none⟩ (.int .i64 (-7))) := hK.setCell (p := ⟨sb, i, none⟩) (.inl hsl) _
      obtain ⟨v, hv⟩ := get_of_lt (d := L) (k := i) (by rw [HLl.out]; exact hlt)
      obtain ⟨l, hl⟩ := get_of_lt (d := D) (k := i) (by rw [HDl.out]; exact hlt)
      have hl5 := hd5 i l hl
      obtain ⟨ao, cap, hvf, hcap⟩ := (hsp.rm i v l hv hl).form
      have Hv : Hid (L[i]? = some v) := hv
      have Hl : Hid (D[i]? = some l) := hl
      have Hvf : Hid (v = .slice ao l.length cap) := hvf
      clear hu0 hcm hcs hv hl hsp hK hvf
      go_wp2
      clear y0 hfz hls hcb
      go_loopw [11] (fun s11 wr => ∃ j : Nat, s11 = .int .i64 j ∧ j ≤ l.length ∧ Spoilt lo hi sb lb n L D wr (i + 1) i j ∧ KeptF (fun k => lo ≤ k ∧ k < hi) w2 wr) (fun s11 _ => l.length - (intOf s11).toNat)
      case atStart => exact ⟨0, rfl, Nat.zero_le _, hsp1, hK1⟩
      case round =>
        clear hsp1 hK1
        obtain ⟨j, rfl, hj, hsp, hK⟩ := hrel
        have z0 : wr.cell? ⟨lb, i, none⟩ = some (.slice ao l.length cap) := by rw [hsp.ls.cell, List.getElem?_toArray, Hv.out, Hvf.out]
        have hlb := hsp.ls.lt
        by_cases hlt2 : j < l.length
        · have hjl : (j : Int) < (l.length : Int) := by omega
          have hrm := hsp.rm i v l Hv.out Hl.out
          rw [Hvf.out] at hrm
          obtain ⟨g, c, cp, hv', hcp, hg1, hg2, hgb, hcell⟩ := hrm.at_ hlt2
          cases hv'
          obtain ⟨u0, hu0⟩ := hcell 0 (by omega)
          have y0 : wr.cell? ⟨g, j * 5, none⟩ = some u0 := by rw [hgb.cell]; exact hu0
          have hfz := hgb.frozen
          have hlg := hgb.lt
          have hsp2 := hsp.entry Hv.out Hvf.out hgb hu0
          clear hcell hu0 hcp hsp hrm
          go_wp2
          go_roundw
          case rel => exact ⟨j + 1, by go_num, hlt2, hsp2, hK.setCell (p := ⟨g, j * 5, none⟩) (.inl ⟨hg1, hg2⟩) _⟩
          case measure => simp [intOf]; omega
        · have hspn := hsp.next (fun v' l' _ h2 => by rw [Hl.out] at h2; cases h2; omega)
          clear hsp
          go_wp2
          go_roundw
          case rel => exact ⟨i + 1, by go_num, hlt, hspn, hK⟩
          case measure => simp [intOf]; omega
    · have hie : i = n := by omega
      subst hie
      have hbK : Below w1.heap.size w2 wr := KeptF.below hK (by have := hk2.lt; omega) (fun i hi => by omega)
      have hbr : Below w.heap.size w wr := hbw2.trans (hbK.mono hwlo)
      have hkr := hk2.keep hK (by omega)
      have j0 : wr.cell? ⟨w1.heap.size, 0, none⟩ = some (.int .i64 m.procs) := hkr.cell 0
      have j1 : wr.cell? ⟨w1.heap.size, 1, none⟩ = some (.int .i64 m.states) := hkr.cell 1
      have j2 : wr.cell? ⟨w1.heap.size, 2, none⟩ = some (.int .i64 m.loads) := hkr.cell 2
      have j3 : wr.cell? ⟨w1.heap.size, 3, none⟩ = some (.slice a1 m.links.length c1) := hkr.cell 3
      have j4 : wr.cell? ⟨w1.heap.size, 4, none⟩ = some (.slice a2 R'.length c2) := hkr.cell 4
      have j5 : wr.cell? ⟨w1.heap.size, 5, none⟩ = some (.slice a3 m.starts.length c3) := hkr.cell 5
      have hlk := hkr.lt
      have hr2 := run_any2 m (.slice a1 m.links.length c1) (.slice a2 R'.length c2) (.slice a3 m.starts.length c3) R' w1.heap.size en wr (hMw2.keep hbK) (Nat.le_of_lt hlk) hne
      go_wp2_with fail
      refine hr2.mono ?_
      rintro e3 w3 ⟨g3, s3, l3, rfl, -, hd3⟩
      obtain ⟨sb3, lb3, k3, L3, rfl, rfl, -⟩ := hd3 Ha.out
      clear hr2 j0 j1 j2 j3 j4 j5 hd3
      have hsp3 := hsp.keep (kept_of_below' g3) (fun _ _ e => e)
      have hbf : Below w.heap.size w w3 := hbr.trans (g3.mono hbr.size)
      rw [← Hnm.out]
      clear hsp hK hbK hkr hk2 hMw2 hbr g3
      go_wp2
      go_loopw [16] (fun s16 wr => ∃ p : Nat, s16 = .int .i64 p ∧ p ≤ i ∧ wr = w3) (fun s16 _ => i - (intOf s16).toNat)
      case atStart => exact ⟨0, rfl, Nat.zero_le _, rfl⟩
      case round =>
        obtain ⟨p, rfl, hp, hwr⟩ := hrel
        subst hwr
        by_cases hlt2 : p < i
        · have hpl : (p : Int) < (i : Int) := by omega
          obtain ⟨c, hcb, hcs, hcm⟩ := hsp3.st
          have y0 : wr.cell? ⟨sb, p, none⟩ = some (.int .i64 (-7)) := by rw [hcb.cell]; exact hcm p hlt2
          have hls := hcb.lt
          obtain ⟨v, hv⟩ := get_of_lt (d := L) (k := p) (by rw [HLl.out]; exact hlt2)
          obtain ⟨l, hl⟩ := get_of_lt (d := D) (k := p) (by rw [HDl.out]; exact hlt2)
          have hl5 := hd5 p l hl
          have hrm := hsp3.rm p v l hv hl
          have hmk := hsp3.mks p v l hv hl hlt2
          obtain ⟨ao, cap, hvf, hcap⟩ := hrm.form
          have z0 : wr.cell? ⟨lb, p, none⟩ = some (.slice ao l.length cap) := by rw [hsp3.ls.cell, List.getElem?_toArray, hv, hvf]
          have hlb := hsp3.ls.lt
          rw [hvf] at hrm
          have HM : Hid (Mark wr (.slice ao l.length cap) l.length) := by rw [← hvf]; exact hmk
          clear hcb hcs hcm hv hl hvf hmk
          go_wp2
          clear y0
          go_loopw [17] (fun s17 wq => ∃ j : Nat, s17 = .int .i64 j ∧ j ≤ l.length ∧ wq = wr) (fun s17 _ => l.length - (intOf s17).toNat)
          case atStart => exact ⟨0, rfl, Nat.zero_le _, rfl⟩
          case round =>
            obtain ⟨j, rfl, hj, hwr⟩ := hrel
            subst hwr
            by_cases hlt3 : j < l.length
            · have hjl : (j : Int) < (l.length : Int) := by omega
              obtain ⟨g, c, cp, hv', _⟩ := hrm.at_ hlt3
              cases hv'
              have y0 := HM.out g _ _ rfl j hlt3
              have hlg := block_lt_of_cell y0
              simp only at hlg
              go_wp2
              go_roundw
              case rel => exact ⟨j + 1, by go_num, hlt3, trivial⟩
              case measure => simp [intOf]; omega
            · go_wp2
              go_roundw
              case rel => exact ⟨p + 1, by go_num, hlt2, trivial⟩
              case measure => simp [intOf]; omega
        · go_wp2
          go_ret
          exact ⟨rfl, hbf⟩

end Go.Proofs.Ytaieackeflmhgaa

namespace Go.Proofs.Ytaieackeflmhgaa
open Go.RowKit Go.Sort Go.Maps

/-- two steps with one number, from one state -/
theorem same_step {m : Mdl} {en : Int} {s s1 s2 : NS} {x : Int} {c1 c2 : Bool} (h1 : (isP m x = false ∧ c1 = false ∧ s1 = s) ∨ (0 ≤ x ∧ x < m.procs ∧ Stepped m en s s1 x.toNat c1)) (h2 : (isP m x = false ∧ c2 = false ∧ s2 = s) ∨ (0 ≤ x ∧ x < m.procs ∧ Stepped m en s s2 x.toNat c2)) : s2 = s1 ∧ c2 = c1 := by
  rcases h1 with ⟨p1, b1, e1⟩ | ⟨p1, p1', e1⟩
  · rcases h2 with ⟨_, b2, e2⟩ | ⟨p2, p2', _⟩
    · exact ⟨e2.trans e1.symm, b2.trans b1.symm⟩
    · rw [isP_iff.2 ⟨p2, p2'⟩] at p1; cases p1
  · rcases h2 with ⟨p2, _, _⟩ | ⟨_, _, e2⟩
    · rw [isP_iff.2 ⟨p1, p1'⟩] at p2; cases p2
    · exact e2.unique e1
theorem Good.next {m : Mdl} {en : Int} {k : Nat} {N : Nat → Nat} {s s1 : NS} {x : Int} {c1 : Bool} (T : Tells m en k) (hG : Good m en (FK m en k) N s) (h1 : (isP m x = false ∧ c1 = false ∧ s1 = s) ∨ (0 ≤ x ∧ x < m.procs ∧ Stepped m en s s1 x.toNat c1)) : ∃ N', Good m en (FK m en k) N' s1 := by
  rcases h1 with ⟨_, _, e1⟩ | ⟨p1, p1', e1⟩
  · subst e1; exact ⟨N, hG⟩
  · obtain ⟨N', _, h2⟩ := hG.stepped T.env (p := x.toNat) (by unfold np; omega) e1
    exact ⟨N', h2⟩

set_option maxRecDepth 100000 in
set_option maxHeartbeats 32000000 in
theorem leaves_any (w : World) (m : Mdl) (lv rv sv tv : Value) (R : List RuleV) (steps : List Int) (en : Int) (h : ModelAt w w.heap.size lv rv sv m R) (hT : RowsAt 1 intC w w.heap.size tv steps)
    (b1 : m.links.length * 24 ≤ 140737488351232) (b2 : m.rules.length * 56 ≤ 140737488351232) (b3 : m.starts.length * 24 ≤ 140737488351232) (b4 : ∀ r ∈ m.rules, r.es.length * 24 ≤ 140737488351232) (b5 : steps.length * 8 ≤ 140737488351232) :
    Calls Try.prog 14 #[.agg #[.int .i64 m.procs, .int .i64 m.states, .int .i64 m.loads, lv, rv, sv], .int .i64 en, tv] w fun e w' => e = .returned (.bool true) ∧ Below w.heap.size w w' := by
  have hne : ∀ r ∈ m.rules, r.es.length ≤ 5864062014634 := fun r hr => by have := b4 r hr; omega
  obtain ⟨aot, capt, htv, hcapt⟩ := RowsAt.form hT
  subst htv
  obtain ⟨W0, hW0⟩ : ∃ W0, W0 = w.alloc (.cells #[.int .i64 m.procs, .int .i64 m.states, .int .i64 m.loads, lv, rv, sv] 26) := ⟨_, rfl⟩
  have HW0 : Hid (W0 = w.alloc (.cells #[.int .i64 m.procs, .int .i64 m.states, .int .i64 m.loads, lv, rv, sv] 26)) := hW0
  have hB0 : Below w.heap.size w W0 := by rw [hW0]; exact (Below.refl _ _).alloc (Nat.le_refl _) _
  have hmb : Blk W0 w.heap.size #[.int .i64 m.procs, .int .i64 m.states, .int .i64 m.loads, lv, rv, sv] 26 := by rw [hW0]; exact heap_alloc_new w _
  have hmade := made_all m lv rv sv R w.heap.size W0 (h.keep hB0) hB0.size b1 b2 b3 b4
  clear hW0
  have k0 := Gr.cells (v := .int .i64 m.procs) (hmb.cell 0)
  have k1 := Gr.cells (v := .int .i64 m.states) (hmb.cell 1)
  have k2 := Gr.cells (v := .int .i64 m.loads) (hmb.cell 2)
  have k3 := Gr.cells (v := lv) (hmb.cell 3)
  have k4 := Gr.cells (v := rv) (hmb.cell 4)
  have k5 := Gr.cells (v := sv) (hmb.cell 5)
  have hg0 := Gr.refl W0
  have hlm := hmb.lt
  go_enter Try.func14, Try.ntmps14
  go_upto_region 1 with fail
  rw [← HW0.out]
  clear HW0
  go_wp2_with fail
  refine hmade.mono ?_
  rintro e1 w1 ⟨lv', rv', sv', RS, rfl, hMO, hSO, g1⟩
  clear hmade
  have hM' := hMO.whole hSO
  have hRl : RS.length = m.rules.length := by rw [← hMO.same, List.length_map]
  have hrm1 := hMO.links.room
  have hrm2 := hSO.room
  have hrm3 := hMO.rroom
  obtain ⟨a1, c1, hf1, _⟩ := hMO.links.form'
  obtain ⟨a2, c2, hf2, _⟩ := hMO.rules.form'
  obtain ⟨a3, c3, hf3, _⟩ := hSO.form'
  subst hf1 hf2 hf3
  have b2' : RS.length * 56 ≤ 140737488351232 := by rw [hRl]; exact b2
  have b4' : ∀ x ∈ RS, x.r.es.length * 24 ≤ 140737488351232 := fun x hx => b4 x.r (by rw [← hMO.same]; exact List.mem_map_of_mem hx)
  clear hRl hMO hSO
  obtain ⟨WA, hWA⟩ : ∃ WA, WA = w1.alloc (.cells #[.int .i64 m.procs, .int .i64 m.states, .int .i64 m.loads, (.slice a1 m.links.length c1), (.slice a2 RS.length c2), (.slice a3 m.starts.length c3)] 31) := ⟨_, rfl⟩
  have HWA : Hid (WA = w1.alloc (.cells #[.int .i64 m.procs, .int .i64 m.states, .int .i64 m.loads, (.slice a1 m.links.length c1), (.slice a2 RS.length c2), (.slice a3 m.starts.length c3)] 31)) := hWA
  have hg1 : Gr W0 WA := by rw [hWA]; exact Gr.alloc (W0 := W0) g1 _
  have hbA : Below w1.heap.size w1 WA := by rw [hWA]; exact (Below.refl _ _).alloc (Nat.le_refl _) _
  have hkb : Blk WA w1.heap.size #[.int .i64 m.procs, .int .i64 m.states, .int .i64 m.loads, (.slice a1 m.links.length c1), (.slice a2 RS.length c2), (.slice a3 m.starts.length c3)] 31 := by rw [hWA]; exact heap_alloc_new w1 _
  clear hWA
  have hMA := hM'.keep hbA
  have j0 := Gr.cells (v := .int .i64 m.procs) (hkb.cell 0)
  have j1 := Gr.cells (v := .int .i64 m.states) (hkb.cell 1)
  have j2 := Gr.cells (v := .int .i64 m.loads) (hkb.cell 2)
  have j3 := Gr.cells (v := .slice a1 m.links.length c1) (hkb.cell 3)
  have j4 := Gr.cells (v := .slice a2 RS.length c2) (hkb.cell 4)
  have j5 := Gr.cells (v := .slice a3 m.starts.length c3) (hkb.cell 5)
  have hgA := Gr.refl WA
  have hlk := hkb.lt
  have hr1 := run_on m (.slice a1 m.links.length c1) (.slice a2 RS.length c2) (.slice a3 m.starts.length c3) (RS.map RuleS.v) w1.heap.size en WA hMA hbA.size hne
  go_upto_region 2 with fail
  rw [← HWA.out]
  clear HWA
  go_wp2_with fail
  refine hr1.mono ?_
  rintro e2 w2 ⟨g2, hcase⟩
  clear hr1
  have hgA2 : Gr WA w2 := g2
  have hg2 : Gr W0 w2 := Gr.trans hg1 g2
  have ho := open_any w2 w1.heap.size (.slice a1 m.links.length c1) (.slice a2 RS.length c2) (.slice a3 m.starts.length c3) m (RS.map RuleS.v) en (hMA.keep (hgA2.mono hbA.size)) (Nat.le_trans hbA.size hgA2.size) hne
  rcases hcase with ⟨ha, rfl⟩ | ⟨ha, sb, lb, k', L, rfl, hRun⟩
  · have h1 := answer_ne ha
    have Ha : Hid (answer m en ≠ (0, 0)) := ha
    clear ha
    go_wp2_with fail
    refine ho.mono ?_
    rintro e3 w3 ⟨g3, ⟨_, rfl⟩ | ⟨hy, _⟩⟩
    rotate_left
    · exact absurd hy Ha.out
    clear ho j0 j1 j2 j3 j4 j5
    have hg3 : Gr W0 w3 := Gr.trans hg2 g3
    have hbw3 : Below w.heap.size w w3 := Gr.below hg3 hB0
    have hrf := refCheck_any m lv rv sv R w.heap.size en w3 (h.keep hbw3) hbw3.size hne
    clear Ha
    generalize answer m en = a at *
    go_wp2_with fail
    refine hrf.mono ?_
    rintro e4 w4 ⟨pv, rfl, g4, -⟩
    clear hrf k0 k1 k2 k3 k4 k5
    have hbw4 : Below w.heap.size w w4 := hbw3.trans (g4.mono hbw3.size)
    have hnum := num_any a.1 w4
    have h2 : (a.1 != 0) = true := by simp [h1]
    have h3 : (a.1 == 0) = false := by simp [h1]
    go_wp2_with (go_at_call 18; refine hnum.mono ?_; rintro e6 w6 ⟨rfl, hw6⟩; rw [hw6]; clear hw6)
    go_ret
    exact ⟨rfl, hbw4⟩
  · have Ha : Hid (answer m en = (0, 0)) := ha
    clear ha
    go_wp2_with fail
    refine ho.mono ?_
    rintro e3 w3 ⟨g3, ⟨hy, _⟩ | ⟨_, nb, V, rfl, hN, hlo⟩⟩
    · exact absurd Ha.out hy
    have hgA3 : Gr WA w3 := Gr.trans hgA2 g3
    have hg3 : Gr W0 w3 := Gr.trans hg2 g3
    have hbw3 : Below w.heap.size w w3 := Gr.below hg3 hB0
    have hrf := refCheck_any m lv rv sv R w.heap.size en w3 (h.keep hbw3) hbw3.size hne
    rw [Ha.out] at hrf
    clear ho
    go_wp2_with fail
    refine hrf.mono ?_
    rintro e4 w4 ⟨pv, rfl, g4, -⟩
    clear hrf
    have hgA4 : Gr WA w4 := Gr.trans hgA3 g4
    have hg4 : Gr W0 w4 := Gr.trans hg3 g4
    have hbw4 : Below w.heap.size w w4 := Gr.below hg4 hB0
    have hnum := num_any 0 w4
    obtain ⟨hval, hFew⟩ := answer_zero Ha.out
    obtain ⟨hRt, hen0, hen⟩ := right_of_valid hval
    obtain ⟨k, hk, hnk⟩ := hFew
    have T : Tells m en k := ⟨hRt, hen0, hen, hnk, hk⟩
    have hRun' : RunOn WA.heap.size w2.heap.size w2 m en sb lb k L := by
      have he := atK_end hRun.stop hnk
      exact ⟨hnk, by rw [← he]; exact hRun.st, hRun.ls, hRun.len, fun p v l h1 h2 => hRun.rows p v l h1 (by rw [he]; exact h2), hRun.lows, hRun.lowl⟩
    clear hRun hval
    have hp1 := hRt.lim.p1
    have hp2 := hRt.lim.p2
    have hnp1 : 1 ≤ np m := by unfold np; omega
    have hnp6 : np m ≤ 6 := by unfold np; omega
    have hnpc : ((np m : Nat) : Int) = m.procs := by unfold np; omega
    have Hnpc : Hid (((np m : Nat) : Int) = m.procs) := hnpc
    -- the model's rows, to be spoilt
    have hwA : w1.heap.size ≤ w4.heap.size := Nat.le_trans hbA.size hgA4.size
    have hb14 : Below w1.heap.size w1 w4 := hbA.trans (hgA4.mono hbA.size)
    have hspl := spoil_any w4 W0.heap.size w1.heap.size (.slice a1 m.links.length c1) (.slice a2 RS.length c2) (.slice a3 m.starts.length c3) m RS (hrm1.keep (kept_of_below' hb14) (fun _ _ _ e => e)) (hrm2.keep (kept_of_below' hb14) (fun _ _ _ e => e)) (hrm3.keep (kept_of_below' hb14) (fun _ _ _ e => e)) hwA b1 b2' b3 b4'
    clear hrm1 hrm2 hrm3
    go_wp2_with (go_at_call 18; refine hnum.mono ?_; rintro e6 w6 ⟨rfl, hw6⟩; rw [hw6]; clear hw6)
    refine hspl.mono ?_
    rintro e5 w5 ⟨rfl, hK5⟩
    clear hspl hnum j0 j1 j2 j3 j4 j5 hnpc
    have hszA : W0.heap.size ≤ w1.heap.size := g1.size
    have hsz1A : w1.heap.size < WA.heap.size := hlk
    have hb4' : Below W0.heap.size W0 w4 := hg4
    have hmb5 : Blk w5 w.heap.size #[.int .i64 m.procs, .int .i64 m.states, .int .i64 m.loads, lv, rv, sv] 26 := (hmb.keep (kept_of_below' hb4') (fun e => e)).keep hK5 (by omega)
    have hb5' : Below W0.heap.size w4 w5 := KeptF.below hK5 hb4'.size (fun i hi => hi.1)
    have hbw5 : Below w.heap.size w w5 := hbw4.trans (hb5'.mono hB0.size)
    have hN5 : NetAt w5 nb m en (openN m) V := (hN.grow (kept_of_below' g4)).keep hK5 (fun i hi hf => by have := (hN.lt hi).1; have := hgA2.size; omega) (fun i hi hf => by have := (hN.alt (.inr hi)).1; have := hgA2.size; omega)
    have hR5 : RunOn WA.heap.size w2.heap.size w5 m en sb lb k L := ((hRun'.keep (kept_of_below' g3) (fun _ _ _ e => e)).keep (kept_of_below' g4) (fun _ _ _ e => e)).keep hK5 (fun i h1 _ hf => by omega)
    have hmade := made_any m lv rv sv R w.heap.size w5 (h.keep hbw5) hbw5.size b1 b2 b3 b4
    obtain ⟨lo, hlo'⟩ : ∃ lo, lo = WA.heap.size := ⟨_, rfl⟩
    obtain ⟨hi, hhi⟩ : ∃ hi, hi = w2.heap.size := ⟨_, rfl⟩
    rw [← hlo', ← hhi] at hR5
    have hVlo : ∀ i, AF nb V i → hi ≤ i ∧ i < w5.heap.size := fun i hf => by
      have h1 := hN5.alt hf
      rw [hlo] at h1
      omega
    have hwhi : w.heap.size < hi := by have := hgA2.size; have := hB0.size; omega
    clear k0 k1 k2 k3 k4 k5 hg0 hg1 hg2 hg3 hg4 hgA hgA2 hgA3 hgA4 hK5 hb5' hb4' hbw4 hbw3 hb14 hwA hN hRun' hlo hmb hkb hMA hbA hM' g1 g2 g3 g4 hlo' hhi hszA hsz1A hB0 hlm hlk b2' b4'
    have m0 := Gr.cells (v := .int .i64 m.procs) (hmb5.cell 0)
    have m1 := Gr.cells (v := .int .i64 m.states) (hmb5.cell 1)
    have m2 := Gr.cells (v := .int .i64 m.loads) (hmb5.cell 2)
    have m3 := Gr.cells (v := lv) (hmb5.cell 3)
    have m4 := Gr.cells (v := rv) (hmb5.cell 4)
    have m5 := Gr.cells (v := sv) (hmb5.cell 5)
    have hg5 := Gr.refl w5
    have hlm5 := hmb5.lt
    go_wp2_with fail
    refine hmade.mono ?_
    rintro e6 w6 ⟨lv6, rv6, sv6, R6, rfl, hM6, g6⟩
    clear hmade
    obtain ⟨a4, c4, hf4, _⟩ := RowsAt.form hM6.links
    obtain ⟨a5, c5, hf5, _⟩ := RowsAt.form hM6.rules.1
    obtain ⟨a6, c6, hf6, _⟩ := RowsAt.form hM6.starts
    subst hf4 hf5 hf6
    obtain ⟨WB, hWB⟩ : ∃ WB, WB = w6.alloc (.cells #[.int .i64 m.procs, .int .i64 m.states, .int .i64 m.loads, (.slice a4 m.links.length c4), (.slice a5 R6.length c5), (.slice a6 m.starts.length c6)] 31) := ⟨_, rfl⟩
    have HWB : Hid (WB = w6.alloc (.cells #[.int .i64 m.procs, .int .i64 m.states, .int .i64 m.loads, (.slice a4 m.links.length c4), (.slice a5 R6.length c5), (.slice a6 m.starts.length c6)] 31)) := hWB
    have hgB : Gr w5 WB := by rw [hWB]; exact Gr.alloc (W0 := w5) g6 _
    have hbB : Below w6.heap.size w6 WB := by rw [hWB]; exact (Below.refl _ _).alloc (Nat.le_refl _) _
    have hkb : Blk WB w6.heap.size #[.int .i64 m.procs, .int .i64 m.states, .int .i64 m.loads, (.slice a4 m.links.length c4), (.slice a5 R6.length c5), (.slice a6 m.starts.length c6)] 31 := by rw [hWB]; exact heap_alloc_new w6 _
    clear hWB
    have j0 : WB.cell? ⟨w6.heap.size, 0, none⟩ = some (.int .i64 m.procs) := hkb.cell 0
    have j1 : WB.cell? ⟨w6.heap.size, 1, none⟩ = some (.int .i64 m.states) := hkb.cell 1
    have j2 : WB.cell? ⟨w6.heap.size, 2, none⟩ = some (.int .i64 m.loads) := hkb.cell 2
    have j3 : WB.cell? ⟨w6.heap.size, 3, none⟩ = some (.slice a4 m.links.length c4) := hkb.cell 3
    have j4 : WB.cell? ⟨w6.heap.size, 4, none⟩ = some (.slice a5 R6.length c5) := hkb.cell 4
    have j5 : WB.cell? ⟨w6.heap.size, 5, none⟩ = some (.slice a6 m.starts.length c6) := hkb.cell 5
    have hlk := hkb.lt
    have ho := open_any WB w6.heap.size (.slice a4 m.links.length c4) (.slice a5 R6.length c5) (.slice a6 m.starts.length c6) m R6 en (hM6.keep hbB) hbB.size hne
    go_upto_region 13 with fail
    rw [← HWB.out]
    clear HWB
    go_wp2_with fail
    refine ho.mono ?_
    rintro e7 w7 ⟨g7, ⟨hy, _⟩ | ⟨_, nb2, V2, rfl, hN2, hlo2⟩⟩
    · exact absurd Ha.out hy
    have hg7 : Gr w5 w7 := Gr.trans hgB g7
    clear ho j0 j1 j2 j3 j4 j5 m0 m1 m2 m3 m4 m5
    have hb57 : Below w5.heap.size w5 w7 := hg7
    have hsz5B : w5.heap.size ≤ WB.heap.size := hgB.size
    have TW : Twin w w7 lo hi nb nb2 m en k sb lb L (openN m) (openN m) V V2 := by
      refine ⟨hN5.grow (kept_of_below' hb57), hN2, hR5.keep (kept_of_below' hb57) (fun _ _ _ e => e), fun i hf => ⟨(hVlo i (.inl hf)).1, fun hf2 => ?_⟩, fun i hf => ⟨?_, fun hf2 => ?_⟩, hwhi, hbw5.trans (hb57.mono hbw5.size)⟩
      · have h1 := (hN2.alt hf2).1
        have h2 := (hVlo i (.inl hf)).2
        rw [hlo2] at h1
        omega
      · have h1 := (hN2.lt hf).1
        have h2 := (hVlo nb (.inl (.inl rfl)))
        rw [hlo2] at h1
        omega
      · have h1 := (hN2.lt hf).1
        have h2 := (hVlo i hf2).2
        rw [hlo2] at h1
        omega
    have hmb7 := hmb5.keep (kept_of_below' hb57) (fun e => e)
    clear hg7 hb57 hsz5B hN5 hN2 hR5 hlo2 hVlo hmb5 hbw5 hgB hbB hM6 hkb hlk g6 g7 hg5 hlm5 hwhi
    have hG0 := good_open T.env
    go_wp2
    go_loopw [22] (fun s22 wq => ∃ (i : Nat) (N : Nat → Nat) (s : NS) (V V2 : NV), s22 = .int .i64 i ∧ i ≤ steps.length ∧ Twin w wq lo hi nb nb2 m en k sb lb L s s V V2 ∧ Good m en (FK m en k) N s ∧ Blk wq w.heap.size #[.int .i64 m.procs, .int .i64 m.states, .int .i64 m.loads, lv, rv, sv] 26) (fun s22 _ => steps.length - (intOf s22).toNat)
    case atStart => exact ⟨0, _, _, V, V2, rfl, Nat.zero_le _, TW, hG0, hmb7⟩
    case round =>
      clear TW hG0 hmb7
      obtain ⟨i, N, s, V, V2, rfl, hi', TW, hG, hbx⟩ := hrel
      by_cases hlt : i < steps.length
      · obtain ⟨x, hx⟩ := get_of_lt hlt
        obtain ⟨tb, tof, hao, htbB, htc⟩ := RowsAt.at_ (hT.keep TW.bel) hx
        subst hao
        have t0 := htc 0 (.int .i64 x) rfl
        simp only [Nat.add_zero, Nat.mul_one] at t0
        have hltb : tb < wr.heap.size := block_lt_of_cell t0
        have hil : (i : Int) < steps.length := by omega
        have hst1 := step_any wr nb m en (FK m en k) (CK m en k) N s V x T.env TW.n1 hG
        have Hx : Hid (steps[i]? = some x) := hx
        clear htc hx
        go_wp2_with fail
        refine hst1.mono ?_
        rintro e8 w8 ⟨q1, s1, V1, rfl, hgo1, hc1⟩
        clear hst1 t0 hltb
        have TW1 := TW.one hgo1
        have hbx1 := TW.box hgo1 hbx
        obtain ⟨N1, hG1⟩ := hG.next T hc1
        clear TW hbx hgo1
        obtain ⟨tb', tof', hao, htbB', htc⟩ := RowsAt.at_ (hT.keep TW1.bel) Hx.out
        cases hao
        have t0 := htc 0 (.int .i64 x) rfl
        simp only [Nat.add_zero, Nat.mul_one] at t0
        have hltb : tb < w8.heap.size := block_lt_of_cell t0
        have hst2 := step_any w8 nb2 m en (FK m en k) (CK m en k) N s V2 x T.env TW1.n2 hG
        clear htc
        go_wp2_with fail
        refine hst2.mono ?_
        rintro e9 w9 ⟨q2, s2, V3, rfl, hgo2, hc2⟩
        clear hst2 t0 hltb
        obtain ⟨hs21, hq21⟩ := same_step hc1 hc2
        subst hs21 hq21
        have TW2 := TW1.two hgo2
        have hbx2 := TW1.swap.box hgo2 hbx1
        clear TW1 hbx1 hgo2 hc1 hc2 hG Hx
        go_wp2
        go_loopw [25] (fun s25 wq => ∃ p : Nat, s25 = .int .i64 p ∧ p ≤ np m ∧ Twin w wq lo hi nb nb2 m en k sb lb L s2 s2 V1 V3 ∧ Blk wq w.heap.size #[.int .i64 m.procs, .int .i64 m.states, .int .i64 m.loads, lv, rv, sv] 26) (fun s25 _ => np m - (intOf s25).toNat)
        case atStart => exact ⟨0, rfl, Nat.zero_le _, TW2, hbx2⟩
        case round =>
          clear TW2 hbx2
          obtain ⟨p, rfl, hp, TW, hbx⟩ := hrel
          have p0 : wr.cell? ⟨w.heap.size, 0, none⟩ = some (.int .i64 m.procs) := hbx.cell 0
          have hlb := hbx.lt
          by_cases hlt2 : p < np m
          · have hpl : (p : Int) < m.procs := by have := Hnpc.out; omega
            have hpn : (p : Int) < (np m : Int) := by omega
            have hpi : isP m (p : Int) = true := isP_iff.2 ⟨by omega, hpl⟩
            have Hpi : Hid (isP m (p : Int) = true) := hpi
            obtain ⟨a, ha⟩ := get_of_lt (d := s2.ps) (k := p) (by rw [TW.n1.slen]; exact hlt2)
            have Hap : Hid (s2.ps[p]? = some a) := ha
            have hdn : ∀ (i : Nat) (b : NP), s2.ps[i]? = some b → b.dn.length ≤ 5000 := fun i b hb => by have := hG1.1.waits_len T.env hb; omega
            have hpre : (hist m (p : Int) (FK m en k p)).take a.dn.length = a.dn := by rw [hG1.1.dn_len ha, ← hG1.1.done ha]
            have hadl := hdn p a ha
            have hsee := see_any wr nb2 m en s2 V3 (p : Int) TW.n2 hRt hdn
            have Hpre : Hid ((hist m (p : Int) (FK m en k p)).take a.dn.length = a.dn) := hpre
            clear hpi ha hpre
            go_wp2_with fail
            refine hsee.mono ?_
            rintro e10 w10 ⟨hb10, ⟨hf, -⟩ | ⟨-, -, a', ao1, cap1, ha', rfl, hrow1⟩⟩
            · rw [Hpi.out] at hf; cases hf
            rw [Int.toNat_natCast, Hap.out] at ha'
            cases ha'
            clear hsee p0 hlb
            have TW3 := TW.grow hb10
            have hbx3 := hbx.keep (kept_of_below' hb10) (fun e => e)
            clear TW hbx
            have hsee := see_any w10 nb m en s2 V1 (p : Int) TW3.n1 hRt hdn
            go_wp2_with fail
            refine hsee.mono ?_
            rintro e11 w11 ⟨hb11, ⟨hf, -⟩ | ⟨-, -, a', ao2, cap2, ha', rfl, hrow2⟩⟩
            · rw [Hpi.out] at hf; cases hf
            rw [Int.toNat_natCast, Hap.out] at ha'
            cases ha'
            clear hsee
            have TW4 := TW3.grow hb11
            have hbx4 := hbx3.keep (kept_of_below' hb11) (fun e => e)
            have hrow1' := (hrow1.keep (kept_of_below' hb11) (fun _ e => e.elim)).at
            have hal := alike_any w11 w11.heap.size _ _ a.dn hrow1' hrow2.at (Nat.le_refl _) hadl
            clear TW3 hbx3 hrow1 hb11 hb10
            go_wp2_with fail
            refine hal.mono ?_
            rintro e12 w12 ⟨rfl, hb12⟩
            clear hal hrow1' hrow2
            have TW5 := TW4.grow hb12
            have hbx5 := hbx4.keep (kept_of_below' hb12) (fun e => e)
            clear TW4 hbx4 hb12
            obtain ⟨u, hu⟩ := get_of_lt (d := L) (k := p) (by rw [TW5.run.len]; exact hlt2)
            have hru := (TW5.run.rows p u _ hu (T.hist hlt2)).rows.at
            obtain ⟨au, cu, huf, _⟩ := RowsAt.form hru
            have z0 : w12.cell? ⟨lb, p, none⟩ = some (.slice au (hist m (p : Int) (FK m en k p)).length cu) := by rw [TW5.run.ls.cell, List.getElem?_toArray, hu, huf]
            have hllb := TW5.run.ls.lt
            have hlh : (hist m (p : Int) (FK m en k p)).length ≤ 5000 := by rw [hist_length]; exact Nat.le_trans (T.env.len p hlt2) (by decide)
            subst huf
            have hseen := seen_any w12 nb m en s2 V1 p a _ _ TW5.n1 hRt hdn hlt2 Hap.out hru Hpre.out
            clear hu hru
            obtain ⟨ln, hln⟩ : ∃ ln, ln = (hist m (p : Int) (FK m en k p)).length := ⟨_, rfl⟩
            rw [← hln] at z0 hseen hlh
            clear hln
            have hqq : (q2 != q2) = false := by simp
            go_wp2_with fail
            refine hseen.mono ?_
            rintro e13 w13 ⟨rfl, hb13⟩
            have TW6 := TW5.grow hb13
            have hbx6 := hbx5.keep (kept_of_below' hb13) (fun e => e)
            clear hseen z0 hllb TW5 hbx5 hb13 hqq
            go_wp2
            go_roundw
            case rel => exact ⟨p + 1, by go_num, hlt2, TW6, hbx6⟩
            case measure => simp [intOf]; omega
          · have hpl : ¬ (p : Int) < m.procs := by have := Hnpc.out; omega
            go_wp2
            go_roundw
            case rel => exact ⟨i + 1, N1, s2, V1, V3, by go_num, hlt, TW, hG1, hbx⟩
            case measure => simp [intOf]; omega
      · have hbwr := TW.bel
        have hRr := TW.run
        clear TW hG hi'
        have hmade := made_any m lv rv sv R w.heap.size wr (h.keep hbwr) hbwr.size b1 b2 b3 b4
        have m0 := Gr.cells (v := .int .i64 m.procs) (hbx.cell 0)
        have m1 := Gr.cells (v := .int .i64 m.states) (hbx.cell 1)
        have m2 := Gr.cells (v := .int .i64 m.loads) (hbx.cell 2)
        have m3 := Gr.cells (v := lv) (hbx.cell 3)
        have m4 := Gr.cells (v := rv) (hbx.cell 4)
        have m5 := Gr.cells (v := sv) (hbx.cell 5)
        have hgr := Gr.refl wr
        have hlm := hbx.lt
        go_wp2_with fail
        refine hmade.mono ?_
        rintro e14 w14 ⟨lv7, rv7, sv7, R7, rfl, hM7, g14⟩
        clear hmade
        obtain ⟨a7, c7, hf7, _⟩ := RowsAt.form hM7.links
        obtain ⟨a8, c8, hf8, _⟩ := RowsAt.form hM7.rules.1
        obtain ⟨a9, c9, hf9, _⟩ := RowsAt.form hM7.starts
        subst hf7 hf8 hf9
        obtain ⟨WC, hWC⟩ : ∃ WC, WC = w14.alloc (.cells #[.int .i64 m.procs, .int .i64 m.states, .int .i64 m.loads, (.slice a7 m.links.length c7), (.slice a8 R7.length c8), (.slice a9 m.starts.length c9)] 31) := ⟨_, rfl⟩
        have HWC : Hid (WC = w14.alloc (.cells #[.int .i64 m.procs, .int .i64 m.states, .int .i64 m.loads, (.slice a7 m.links.length c7), (.slice a8 R7.length c8), (.slice a9 m.starts.length c9)] 31)) := hWC
        have hgC : Gr wr WC := by rw [hWC]; exact Gr.alloc (W0 := wr) g14 _
        have hbC : Below w14.heap.size w14 WC := by rw [hWC]; exact (Below.refl _ _).alloc (Nat.le_refl _) _
        have hkb : Blk WC w14.heap.size #[.int .i64 m.procs, .int .i64 m.states, .int .i64 m.loads, (.slice a7 m.links.length c7), (.slice a8 R7.length c8), (.slice a9 m.starts.length c9)] 31 := by rw [hWC]; exact heap_alloc_new w14 _
        clear hWC
        have j0 : WC.cell? ⟨w14.heap.size, 0, none⟩ = some (.int .i64 m.procs) := hkb.cell 0
        have j1 : WC.cell? ⟨w14.heap.size, 1, none⟩ = some (.int .i64 m.states) := hkb.cell 1
        have j2 : WC.cell? ⟨w14.heap.size, 2, none⟩ = some (.int .i64 m.loads) := hkb.cell 2
        have j3 : WC.cell? ⟨w14.heap.size, 3, none⟩ = some (.slice a7 m.links.length c7) := hkb.cell 3
        have j4 : WC.cell? ⟨w14.heap.size, 4, none⟩ = some (.slice a8 R7.length c8) := hkb.cell 4
        have j5 : WC.cell? ⟨w14.heap.size, 5, none⟩ = some (.slice a9 m.starts.length c9) := hkb.cell 5
        have hlk := hkb.lt
        have hr2 := run_any2 m (.slice a7 m.links.length c7) (.slice a8 R7.length c8) (.slice a9 m.starts.length c9) R7 w14.heap.size en WC (hM7.keep hbC) hbC.size hne
        rw [Ha.out] at hr2
        go_upto_region 33 with fail
        rw [← HWC.out]
        clear HWC
        go_wp2_with fail
        refine hr2.mono ?_
        rintro e15 w15 ⟨g15, s15, l15, rfl, -, hd15⟩
        obtain ⟨sb5, lb5, k5', L5, rfl, rfl, hR5⟩ := hd15 trivial
        clear hr2 j0 j1 j2 j3 j4 j5 hd15
        have hg15 : Gr wr w15 := Gr.trans hgC g15
        have hbr15 : Below wr.heap.size wr w15 := hg15
        have hbw15 : Below w.heap.size w w15 := hbwr.trans (hbr15.mono hbwr.size)
        have hbx15 := hbx.keep (kept_of_below' hbr15) (fun e => e)
        have hRa : RunOn lo hi w15 m en sb lb k L := hRr.keep (kept_of_below' hbr15) (fun _ _ _ e => e)
        have hRb : RunAt w15 m en sb5 lb5 k L5 := by
          have he := atK_end hR5.stop hnk
          exact ⟨hnk, by rw [← he]; exact hR5.st, hR5.ls, hR5.len, fun p v l h1 h2 => hR5.rows p v l h1 (by rw [he]; exact h2)⟩
        have hnum := num_any 0 w15
        have hI := atK_inv hRt hen k
        clear hR5 hRr m0 m1 m2 m3 m4 m5 hbx hgr hlm hgC hbC hM7 hkb hlk g14 g15 hg15 hbr15 hbwr
        go_wp2_with (go_at_call 18; refine hnum.mono ?_; rintro e16 w16 ⟨rfl, hw16⟩; rw [hw16]; clear hw16)
        clear hnum
        go_loopw [37] (fun s37 wq => ∃ p : Nat, s37 = .int .i64 p ∧ p ≤ np m ∧ Below w15.heap.size w15 wq) (fun s37 _ => np m - (intOf s37).toNat)
        case atStart => exact ⟨0, rfl, Nat.zero_le _, Below.refl _ _⟩
        case round =>
          obtain ⟨p, rfl, hp, hbq⟩ := hrel
          by_cases hlt2 : p < np m
          · have hpn : (p : Int) < (np m : Int) := by omega
            have hQa := hRa.keep (kept_of_below' hbq) (fun _ _ _ e => e)
            have hQb := hRb.keep hbq
            obtain ⟨v1, hv1⟩ := get_of_lt (d := L) (k := p) (by rw [hQa.len]; exact hlt2)
            obtain ⟨v2, hv2⟩ := get_of_lt (d := L5) (k := p) (by rw [hQb.len]; exact hlt2)
            have hra := (hQa.rows p v1 _ hv1 (T.hist hlt2)).rows.at
            have hrb := hQb.rows p v2 _ hv2 (T.hist hlt2)
            obtain ⟨au1, cu1, huf1, _⟩ := RowsAt.form hra
            obtain ⟨au2, cu2, huf2, _⟩ := RowsAt.form hrb
            subst huf1 huf2
            have hlh : (hist m (p : Int) (FK m en k p)).length ≤ 5000 := by rw [hist_length]; exact Nat.le_trans (T.env.len p hlt2) (by decide)
            obtain ⟨st, hst⟩ := get_of_lt (d := (atK m en k).states) (k := p) (by rw [hI.ls]; exact hlt2)
            have q1 := cell_regrown (v := .slice au1 (hist m (p : Int) (FK m en k p)).length cu1) ((hQa.ls.cell p).trans (by simpa using hv1))
            have q2 := cell_regrown (v := .slice au2 (hist m (p : Int) (FK m en k p)).length cu2) ((hQb.ls.cell p).trans (by simpa using hv2))
            have hl1 := hQa.ls.lt
            have hl2 := hQb.ls.lt
            have hal : ∀ q : Regrown, Calls Try.prog 24 #[.slice au1 (hist m (p : Int) (FK m en k p)).length cu1, .slice au2 (hist m (p : Int) (FK m en k p)).length cu2] (grow (redrawn wr q.d) q.os) fun e' w'' => e' = .returned (.bool true) ∧ ∃ q : Regrown, w'' = grow (redrawn wr q.d) q.os := fun q => by
              have hb2 := below_regrown wr q.d q.os
              exact Calls.regrown_of (alike_any _ wr.heap.size _ _ _ (hra.keep hb2) (hrb.keep hb2) hb2.size hlh)
            obtain ⟨ln, hln⟩ : ∃ ln, ln = (hist m (p : Int) (FK m en k p)).length := ⟨_, rfl⟩
            rw [← hln] at q1 q2 hal hlh
            clear hln hv1 hv2 hra hrb
            go_upto_region 39 with fail
            refine wp_region_quiet_below (by kernel_rfl) (by kernel_rfl) ?_
            repeat (quiet_step (exact hal _))
            refine wpQuiet_nil ?_
            intro wy hw'
            have hby := below_of_regrown hw'
            clear hw' q1 q2 hal hl1 hl2
            have r1 := cell_regrown (v := .int .i64 st) ((hby.cell (p := ⟨sb, p, none⟩) hQa.st.lt).trans ((hQa.st.cell p).trans (ints_get hst)))
            have r2 := cell_regrown (v := .int .i64 st) ((hby.cell (p := ⟨sb5, p, none⟩) hQb.st.lt).trans ((hQb.st.cell p).trans (ints_get hst)))
            have hl1 : sb < wy.heap.size := Nat.lt_of_lt_of_le hQa.st.lt hby.size
            have hl2 : sb5 < wy.heap.size := Nat.lt_of_lt_of_le hQb.st.lt hby.size
            have hbq2 := hbq.trans (hby.mono hbq.size)
            clear hst hQa hQb
            go_upto_region 40 with fail
            refine wp_region_quiet_below (by kernel_rfl) (by kernel_rfl) ?_
            repeat (go_big_quiet_step (fail))
            refine wpQuiet_nil ?_
            intro wz hw'
            have hbz := below_of_regrown hw'
            clear hw' r1 r2 hl1 hl2
            go_wp2
            refine ⟨⟨p + 1, by go_num, hlt2, hbq2.trans (hbz.mono hbq2.size)⟩, ?_⟩
            simp [intOf]; omega
          · have hpn : ¬ (p : Int) < (np m : Int) := by omega
            have hbwr : Below w.heap.size w wr := hbw15.trans (hbq.mono hbw15.size)
            have hleft := left_any wr m lv rv sv R w.heap.size en (h.keep hbwr) hbwr.size Ha.out b1 b2 b3 b4
            have hbx2 := hbx15.keep (kept_of_below' hbq) (fun e => e)
            have m0 : wr.cell? ⟨w.heap.size, 0, none⟩ = some (.int .i64 m.procs) := hbx2.cell 0
            have m1 : wr.cell? ⟨w.heap.size, 1, none⟩ = some (.int .i64 m.states) := hbx2.cell 1
            have m2 : wr.cell? ⟨w.heap.size, 2, none⟩ = some (.int .i64 m.loads) := hbx2.cell 2
            have m3 : wr.cell? ⟨w.heap.size, 3, none⟩ = some lv := hbx2.cell 3
            have m4 : wr.cell? ⟨w.heap.size, 4, none⟩ = some rv := hbx2.cell 4
            have m5 : wr.cell? ⟨w.heap.size, 5, none⟩ = some sv := hbx2.cell 5
            have hlm := hbx2.lt
            go_wp2_with fail
            refine hleft.mono ?_
            rintro e17 w17 ⟨rfl, hb17⟩
            clear hleft m0 m1 m2 m3 m4 m5
            go_wp2
            go_ret
            exact ⟨rfl, hbwr.trans (hb17.mono hbwr.size)⟩

end Go.Proofs.Ytaieackeflmhgaa

