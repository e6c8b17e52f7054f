/-
  The program: leastProcess.
-/
import Derived.Test.YtbpaigpjffdcbaaSim
namespace Go.Proofs.Ytbpaigpjffdcbaa
open Go.RowKit Go.Sort Go.Maps

theorem PAt.least {w : World} {B : Nat} {p : Pr} (h : PAt w B p) : (∀ t, p.top = some t → ∀ a ∈ p.its, ¬ a.lt t) ∧ (p.top = none → p.its = []) :=
  ⟨fun _ ht => (h.top_least ht).2, fun ht => h.its_nil ht⟩

set_option maxRecDepth 100000 in
set_option maxHeartbeats 4000000 in
theorem leastProc_any (w : World) (B pb n : Nat) (ps : List Pr) (h : Procs w B pb n ps) (hn : ps.length = n) (h1 : 1 ≤ n) (h6 : n ≤ 6) :
    Calls Try.prog 60 #[.slice (some ⟨pb, 0, none⟩) n n] w fun e w' => ∃ (i : Nat) (p : Pr), e = .returned (.pointer (some ⟨p.qb, 0, none⟩)) ∧ ps[i]? = some p ∧ Upto ps n p ∧ Below w.heap.size w w' := by
  obtain ⟨p0, hp0⟩ := get_of_lt (d := ps) (k := 0) (by omega)
  have c0 := h.cell hp0
  have hP0 := h.each p0 (List.mem_of_getElem? hp0)
  have hU0 : Upto ps 1 p0 := Upto.one hp0 hP0.least.1 hP0.least.2
  have Hp0 : Hid (ps[0]? = some p0) := hp0
  have Hn : Hid (ps.length = n) := hn
  have hlp : pb < w.heap.size := h.arr.lt
  clear hn hp0
  by_cases hne : n = 1
  · subst hne
    go_enter Try.func60, Try.ntmps60
    go_wp2
    go_loopw [3, 16] (fun s3 s16 wr => s3 = .pointer (some ⟨p0.qb, 0, none⟩) ∧ s16 = .int .i64 0 ∧ Below w.heap.size w wr) (fun _ _ _ => 0)
    case atStart => exact ⟨rfl, rfl, Below.refl _ _⟩
    case round =>
      obtain ⟨rfl, rfl, hB⟩ := hrel
      go_wp2
      go_ret
      exact ⟨0, p0, rfl, Hp0.out, hU0, hB⟩
  · obtain ⟨m, rfl⟩ : ∃ m, n = m + 2 := ⟨n - 2, by omega⟩
    go_enter Try.func60, Try.ntmps60
    go_wp2
    go_loopw [3, 16] (fun s3 s16 wr => ∃ (i b : Nat) (p : Pr), s16 = .int .i64 i ∧ s3 = .pointer (some ⟨p.qb, 0, none⟩) ∧ i ≤ m + 1 ∧ ps[b]? = some p ∧ Upto ps (i + 1) p ∧ Below w.heap.size w wr) (fun _ s16 _ => m + 1 - (intOf s16).toNat)
    case atStart => exact ⟨0, 0, p0, rfl, rfl, by omega, Hp0.out, hU0, Below.refl _ _⟩
    case round =>
      clear c0 hP0 hU0
      obtain ⟨i, b, p, rfl, rfl, hi, hp, hU, hB⟩ := hrel
      have hPr : Procs wr B pb (m + 2) ps := h.grow (kept_of_below' hB)
      by_cases hlt : i < m + 1
      · obtain ⟨q, hq⟩ := get_of_lt (d := ps) (k := i + 1) (by rw [Hn.out]; omega)
        have cq := hPr.cell hq
        rw [Nat.add_comm] at cq
        have hPq := hPr.each q (List.mem_of_getElem? hq)
        have hPp := hPr.each p (List.mem_of_getElem? hp)
        have hlq := hPq.core.blk.lt
        have hlp2 := hPp.core.blk.lt
        have Hq : Hid (ps[i + 1]? = some q) := hq
        have Hp : Hid (ps[b]? = some p) := hp
        clear hq hp
        have hq1 := hPq.least.1
        have hq0 := hPq.least.2
        cases hq : q.top with
        | none =>
          cases hp : p.top with
          | none =>
            have hcq := pLeast_none wr B q hPq hq
            go_wp2_with fail
            refine hcq.mono ?_
            rintro e1 w1 ⟨rfl, g1⟩
            clear hcq cq
            have gA : Below w.heap.size w (w1.alloc (.cells #[.int .i64 0, .int .i64 0, .int .i64 0, .int .i64 0] 117)) := (hB.trans (g1.mono hB.size)).alloc (Nat.le_trans hB.size g1.size) _
            have hPpA := hPp.keep (kept_of_below' (g1.alloc g1.size (.cells #[.int .i64 0, .int .i64 0, .int .i64 0, .int .i64 0] 117))) (fun _ _ e => e)
            have hlpA := hPpA.core.blk.lt
            have hcp := pLeast_none _ B p hPpA hp
            go_wp2_with fail
            refine hcp.mono ?_
            rintro e2 w2 ⟨rfl, g2⟩
            clear hcp
            have gB : Below w.heap.size w (w2.alloc (.cells #[.int .i64 0, .int .i64 0, .int .i64 0, .int .i64 0] 117)) := (gA.trans (g2.mono gA.size)).alloc (Nat.le_trans gA.size g2.size) _
            go_wp2
            go_roundw
            case rel => exact ⟨i + 1, b, p, by go_num, rfl, by omega, Hp.out, hU.stay_none Hq.out (hq0 hq), gB⟩
            case measure => simp [intOf]; omega
          | some u =>
            have hcq := pLeast_none wr B q hPq hq
            go_wp2_with fail
            refine hcq.mono ?_
            rintro e1 w1 ⟨rfl, g1⟩
            clear hcq cq
            have gA : Below w.heap.size w (w1.alloc (.cells #[.int .i64 0, .int .i64 0, .int .i64 0, .int .i64 0] 117)) := (hB.trans (g1.mono hB.size)).alloc (Nat.le_trans hB.size g1.size) _
            have hPpA := hPp.keep (kept_of_below' (g1.alloc g1.size (.cells #[.int .i64 0, .int .i64 0, .int .i64 0, .int .i64 0] 117))) (fun _ _ e => e)
            have hlpA := hPpA.core.blk.lt
            have hcp := pLeast_some _ B p u hPpA hp
            go_wp2_with fail
            refine hcp.mono ?_
            rintro e2 w2 ⟨rfl, g2⟩
            clear hcp
            have gB : Below w.heap.size w (w2.alloc (.cells #[.int .i64 u.t, .int .i64 u.f, .int .i64 u.s, .int .i64 u.l] 117)) := (gA.trans (g2.mono gA.size)).alloc (Nat.le_trans gA.size g2.size) _
            go_wp2
            go_roundw
            case rel => exact ⟨i + 1, b, p, by go_num, rfl, by omega, Hp.out, hU.stay_none Hq.out (hq0 hq), gB⟩
            case measure => simp [intOf]; omega
        | some t =>
          cases hp : p.top with
          | none =>
            have hcq := pLeast_some wr B q t hPq hq
            go_wp2_with fail
            refine hcq.mono ?_
            rintro e1 w1 ⟨rfl, g1⟩
            clear hcq cq
            have gA : Below w.heap.size w (w1.alloc (.cells #[.int .i64 t.t, .int .i64 t.f, .int .i64 t.s, .int .i64 t.l] 117)) := (hB.trans (g1.mono hB.size)).alloc (Nat.le_trans hB.size g1.size) _
            have hPpA := hPp.keep (kept_of_below' (g1.alloc g1.size (.cells #[.int .i64 t.t, .int .i64 t.f, .int .i64 t.s, .int .i64 t.l] 117))) (fun _ _ e => e)
            have hlpA := hPpA.core.blk.lt
            have hcp := pLeast_none _ B p hPpA hp
            go_wp2_with fail
            refine hcp.mono ?_
            rintro e2 w2 ⟨rfl, g2⟩
            clear hcp
            have gB : Below w.heap.size w (w2.alloc (.cells #[.int .i64 0, .int .i64 0, .int .i64 0, .int .i64 0] 117)) := (gA.trans (g2.mono gA.size)).alloc (Nat.le_trans gA.size g2.size) _
            go_wp2
            go_roundw
            case rel => exact ⟨i + 1, i + 1, q, by go_num, rfl, by omega, Hq.out, hU.first hp Hq.out hq (hq1 t hq), gB⟩
            case measure => simp [intOf]; omega
          | some u =>
            have hcq := pLeast_some wr B q t hPq hq
            go_wp2_with fail
            refine hcq.mono ?_
            rintro e1 w1 ⟨rfl, g1⟩
            clear hcq cq
            have gA : Below w.heap.size w (w1.alloc (.cells #[.int .i64 t.t, .int .i64 t.f, .int .i64 t.s, .int .i64 t.l] 117)) := (hB.trans (g1.mono hB.size)).alloc (Nat.le_trans hB.size g1.size) _
            have hPpA := hPp.keep (kept_of_below' (g1.alloc g1.size (.cells #[.int .i64 t.t, .int .i64 t.f, .int .i64 t.s, .int .i64 t.l] 117))) (fun _ _ e => e)
            have hlpA := hPpA.core.blk.lt
            have hcp := pLeast_some _ B p u hPpA hp
            go_wp2_with fail
            refine hcp.mono ?_
            rintro e2 w2 ⟨rfl, g2⟩
            clear hcp
            have gB : Below w.heap.size w (w2.alloc (.cells #[.int .i64 u.t, .int .i64 u.f, .int .i64 u.s, .int .i64 u.l] 117)) := (gA.trans (g2.mono gA.size)).alloc (Nat.le_trans gA.size g2.size) _
            have hx : Blk (w2.alloc (.cells #[.int .i64 u.t, .int .i64 u.f, .int .i64 u.s, .int .i64 u.l] 117)) w1.heap.size #[.int .i64 t.t, .int .i64 t.f, .int .i64 t.s, .int .i64 t.l] 117 := Blk.alloc (Blk.keep (show Blk (w1.alloc (.cells #[.int .i64 t.t, .int .i64 t.f, .int .i64 t.s, .int .i64 t.l] 117)) w1.heap.size #[.int .i64 t.t, .int .i64 t.f, .int .i64 t.s, .int .i64 t.l] 117 from heap_alloc_new w1 _) (kept_of_below' g2) (fun e => e)) _
            have x0 : (w2.alloc (.cells #[.int .i64 u.t, .int .i64 u.f, .int .i64 u.s, .int .i64 u.l] 117)).cell? ⟨w1.heap.size, 0, none⟩ = some (.int .i64 t.t) := hx.cell 0
            have x1 : (w2.alloc (.cells #[.int .i64 u.t, .int .i64 u.f, .int .i64 u.s, .int .i64 u.l] 117)).cell? ⟨w1.heap.size, 1, none⟩ = some (.int .i64 t.f) := hx.cell 1
            have x2 : (w2.alloc (.cells #[.int .i64 u.t, .int .i64 u.f, .int .i64 u.s, .int .i64 u.l] 117)).cell? ⟨w1.heap.size, 2, none⟩ = some (.int .i64 t.s) := hx.cell 2
            have x3 : (w2.alloc (.cells #[.int .i64 u.t, .int .i64 u.f, .int .i64 u.s, .int .i64 u.l] 117)).cell? ⟨w1.heap.size, 3, none⟩ = some (.int .i64 t.l) := hx.cell 3
            have hlx : w1.heap.size < w2.heap.size := by have := g2.size; simp at this; omega
            have hcb := itemBefore_any t u (w2.alloc (.cells #[.int .i64 u.t, .int .i64 u.f, .int .i64 u.s, .int .i64 u.l] 117))
            cases hv : t.aheadB u with
            | true =>
              have Hv : Hid (t.lt u) := (It.aheadB_iff t u).1 hv
              rw [hv] at hcb
              clear hv
              go_wp2_with fail
              refine hcb.mono ?_
              rintro e3 w3 ⟨rfl, g3⟩
              clear hcb x0 x1 x2 x3 hx
              have gC : Below w.heap.size w w3 := gB.trans (g3.mono gB.size)
              go_wp2
              go_roundw
              case rel => exact ⟨i + 1, i + 1, q, by go_num, rfl, by omega, Hq.out, hU.turn hp Hq.out hq (hq1 t hq) Hv.out, gC⟩
              case measure => simp [intOf]; omega
            | false =>
              have Hv : Hid (¬ t.lt u) := fun h => by rw [(It.aheadB_iff t u).2 h] at hv; cases hv
              rw [hv] at hcb
              clear hv
              go_wp2_with fail
              refine hcb.mono ?_
              rintro e3 w3 ⟨rfl, g3⟩
              clear hcb x0 x1 x2 x3 hx
              have gC : Below w.heap.size w w3 := gB.trans (g3.mono gB.size)
              go_wp2
              go_roundw
              case rel => exact ⟨i + 1, b, p, by go_num, rfl, by omega, Hp.out, hU.stay hp Hq.out (hq1 t hq) Hv.out, gC⟩
              case measure => simp [intOf]; omega
      · have hie : i = m + 1 := by omega
        subst hie
        go_wp2
        go_ret
        exact ⟨b, p, rfl, hp, hU, hB⟩

end Go.Proofs.Ytbpaigpjffdcbaa
