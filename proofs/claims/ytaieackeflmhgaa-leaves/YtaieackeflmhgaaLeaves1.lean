/-
  The program: Run.
  The program: Run, its answer in one form.
  Rows that one may spoil: a block of their own, of their own type, big enough; and what was told, as such a row.
  The law's made: a model, copied; all its rows are its own.
  Two nets of one model, side by side, and what Run told: what the law Leaves holds in its hands.
-/
import Derived.Test.YtaieackeflmhgaaSafe14
import Derived.Test.YtaieackeflmhgaaSafe13
import Derived.Test.YtaieackeflmhgaaSafe5
import Derived.Test.YtaieackeflmhgaaSafe12
import Derived.Test.YtaieackeflmhgaaSafe15
namespace Go.Proofs.Ytaieackeflmhgaa
open Go.RowKit Go.Sort Go.Maps

theorem results_tmp4 {fn : Func} {t u v x : Tmp} (h : fn.results = #[.tmp t, .tmp u, .tmp v, .tmp x]) (tmps : Array Value) (P : Program) (w : World) :
    (results fn tmps).run P w = .ok (.tuple #[tmps.getD t undef, tmps.getD u undef, tmps.getD v undef, tmps.getD x undef]) w := by
  simp [results, h]

theorem fill_ints (S : List Int) (n i : Nat) (x : Int) (hi : S[i]? = some x) (hl : S.length = n) : (ints (S.take i ++ List.replicate (n - i) 0)).setIfInBounds i (.int .i64 x) = ints (S.take (i + 1) ++ List.replicate (n - (i + 1)) 0) := by
  have hlt := get_lt hi
  have e : n - i = (n - (i + 1)) + 1 := by omega
  have hlen : (S.take i).length = i := by simp; omega
  rw [ints_set, e, List.replicate_succ, List.set_append_right _ _ (by omega), hlen, Nat.sub_self, List.set_cons_zero, List.take_add_one, hi]
  simp
theorem fill_vals (L : List Value) (n : Nat) (z y : Value) (h : L.length < n) : (L ++ List.replicate (n - L.length) z).toArray.setIfInBounds L.length y = ((L ++ [y]) ++ List.replicate (n - (L.length + 1)) z).toArray := by
  have e : n - L.length = (n - (L.length + 1)) + 1 := by omega
  rw [e, List.replicate_succ, List.setIfInBounds_toArray, List.set_append_right _ _ (Nat.le_refl _), Nat.sub_self]
  simp
theorem info_ints : (Try.prog.info? 3).map (fun i => (i.zero, i.size, i.bytes)) = some (some (.int .i64 0), 1, 8) := by kernel_rfl
theorem info_dones : (Try.prog.info? 60).map (fun i => (i.zero, i.size, i.bytes)) = some (some (.slice none 0 0), 1, 24) := by kernel_rfl

theorem answer_zero {m : Mdl} {en : Int} (h : answer m en = (0, 0)) : valid m en = (0, 0) ∧ Few m en := by
  unfold answer at h
  split at h
  · rename_i hv
    refine ⟨hv, ?_⟩
    split at h
    · rename_i hf; exact fewB_iff.1 hf
    · cases h
  · rename_i hv
    exact absurd h hv
theorem answer_ne {m : Mdl} {en : Int} (h : answer m en ≠ (0, 0)) : (answer m en).1 ≠ 0 := by
  intro e
  apply h
  unfold answer at e ⊢
  split
  · rename_i hv
    rw [if_pos hv] at e
    split
    · rfl
    · rename_i hf; rw [if_neg hf] at e; cases e
  · rename_i hv
    rw [if_neg hv] at e
    exact absurd (valid_zero e) hv

/-- what Run answers, in memory -/
structure RunAt (w : World) (m : Mdl) (en : Int) (sb lb k : Nat) (L : List Value) : Prop where
  stop : nx en (atK m en k).wait = none
  st : Blk w sb (ints (atK m en k).states) 3
  ls : Blk w lb L.toArray 60
  len : L.length = np m
  rows : ∀ (p : Nat) (v : Value) (l : List Dn), L[p]? = some v → (atK m en k).done[p]? = some l → RowsAt 5 dnC w w.heap.size v l

theorem RunAt.keep {w w' : World} {m : Mdl} {en : Int} {sb lb k : Nat} {L : List Value} (h : RunAt w m en sb lb k L) (hb : Below w.heap.size w w') : RunAt w' m en sb lb k L :=
  ⟨h.stop, h.st.keep (kept_of_below' hb) (fun e => e), h.ls.keep (kept_of_below' hb) (fun e => e), h.len, fun p v l h1 h2 => ((h.rows p v l h1 h2).keep hb).mono hb.size⟩

/-- what Run answers, in memory, from lo on -/
structure RunIn (lo : Nat) (w : World) (m : Mdl) (en : Int) (sb lb k : Nat) (L : List Value) : Prop where
  stop : nx en (atK m en k).wait = none
  st : Blk w sb (ints (atK m en k).states) 3
  ls : Blk w lb L.toArray 60
  len : L.length = np m
  rows : ∀ (p : Nat) (v : Value) (l : List Dn), L[p]? = some v → (atK m en k).done[p]? = some l → RowsIn 5 dnC lo w v l
  lows : lo ≤ sb
  lowl : lo ≤ lb

theorem RunIn.keep {lo : Nat} {F : Nat → Prop} {w w' : World} {m : Mdl} {en : Int} {sb lb k : Nat} {L : List Value} (h : RunIn lo w m en sb lb k L) (hk : KeptF F w w') (hF : ∀ i, F i → i < lo) : RunIn lo w' m en sb lb k L :=
  ⟨h.stop, h.st.keep hk (fun e => by have := hF _ e; have := h.lows; omega), h.ls.keep hk (fun e => by have := hF _ e; have := h.lowl; omega), h.len, fun p v l h1 h2 => (h.rows p v l h1 h2).keep hk hF, h.lows, h.lowl⟩
theorem RunIn.at {lo : Nat} {w : World} {m : Mdl} {en : Int} {sb lb k : Nat} {L : List Value} (h : RunIn lo w m en sb lb k L) : RunAt w m en sb lb k L :=
  ⟨h.stop, h.st, h.ls, h.len, fun p v l h1 h2 => (h.rows p v l h1 h2).at⟩

set_option maxRecDepth 100000 in
set_option maxHeartbeats 8000000 in
theorem run_in (m : Mdl) (lv rv sv : Value) (R : List RuleV) (B : Nat) (en : Int) (w : World) (h : ModelAt w B lv rv sv m R) (hB : B ≤ w.heap.size) (hne : ∀ r ∈ m.rules, r.es.length ≤ 5864062014634) :
    Calls Try.prog 22 #[.agg #[.int .i64 m.procs, .int .i64 m.states, .int .i64 m.loads, lv, rv, sv], .int .i64 en] w fun e w' => Below w.heap.size w w' ∧
      ((answer m en ≠ (0, 0) ∧ e = .returned (.tuple #[.slice none 0 0, .slice none 0 0, .int .i64 (answer m en).1, .int .i64 (answer m en).2])) ∨
       (answer m en = (0, 0) ∧ ∃ sb lb k L, e = .returned (.tuple #[.slice (some ⟨sb, 0, none⟩) (np m) (np m), .slice (some ⟨lb, 0, none⟩) (np m) (np m), .int .i64 0, .int .i64 0]) ∧ RunIn w.heap.size w' m en sb lb k L)) := by
  obtain ⟨W0, hW0⟩ : ∃ W0, W0 = w.alloc (.cells #[.int .i64 m.procs, .int .i64 m.states, .int .i64 m.loads, lv, rv, sv] 31) := ⟨_, rfl⟩
  have HW0 : Hid (W0 = w.alloc (.cells #[.int .i64 m.procs, .int .i64 m.states, .int .i64 m.loads, lv, rv, sv] 31)) := hW0
  have hB0 : Below w.heap.size w W0 := by rw [hW0]; exact (Below.refl _ _).alloc (Nat.le_refl _) _
  have hmb : Blk W0 w.heap.size #[.int .i64 m.procs, .int .i64 m.states, .int .i64 m.loads, lv, rv, sv] 31 := by rw [hW0]; exact heap_alloc_new w _
  have k0 := Gr.cells (v := .int .i64 m.procs) (hmb.cell 0)
  have k1 := Gr.cells (v := .int .i64 m.states) (hmb.cell 1)
  have k2 := Gr.cells (v := .int .i64 m.loads) (hmb.cell 2)
  have k3 := Gr.cells (v := lv) (hmb.cell 3)
  have k4 := Gr.cells (v := rv) (hmb.cell 4)
  have k5 := Gr.cells (v := sv) (hmb.cell 5)
  have hBW : B ≤ W0.heap.size := Nat.le_trans hB hB0.size
  have hM0 := h.keep (hB0.mono hB)
  have hg0 := Gr.refl W0
  clear hW0
  have hck := check_any m lv rv sv R B en W0 hM0 hBW hne
  go_enter Try.func22, Try.ntmps22
  go_upto_region 1 with fail
  rw [← HW0.out]
  clear HW0
  go_wp2_with fail
  refine hck.mono ?_
  rintro e1 w1 ⟨rfl, g1⟩
  clear hck
  have hg1 : Gr W0 w1 := g1
  by_cases ha : answer m en = (0, 0)
  · have Ha : Hid (answer m en = (0, 0)) := ha
    rw [ha]
    clear ha
    obtain ⟨hv, hFew⟩ := answer_zero Ha.out
    obtain ⟨hRt, hen0, hen⟩ := right_of_valid hv
    have hp1 := hRt.lim.p1
    have hp2 := hRt.lim.p2
    have hnp6 : np m ≤ 6 := by unfold np; omega
    clear hv
    have hev := events_any w1 B lv rv sv m R en (hM0.keep (hg1.mono hBW)) (Nat.le_trans hBW hg1.size) hRt hen
    go_wp2_with fail
    refine hev.mono ?_
    rintro e2 w2 ⟨k, pb, rfl, g2, hcase⟩
    clear hev k0 k1 k2 k3 k4 k5
    have hg2 : Gr W0 w2 := Gr.trans hg1 g2
    rcases hcase with ⟨hk, -, hnx, ps, hP, hS⟩ | ⟨-, hF⟩
    rotate_left
    · exact absurd hFew hF
    have hI := atK_inv hRt hen k
    have hall : (atK m en k).all ≤ k := atK_all m en k
    have hdl : ∀ p ∈ ps, p.dn.length ≤ 5000 := fun p hp => by
      obtain ⟨i, hi⟩ := List.getElem?_of_mem hp
      have := hI.dl i p.dn (hS.dn i p hi)
      omega
    obtain ⟨S, hSe⟩ : ∃ S, S = (atK m en k).states := ⟨_, rfl⟩
    have HS : Hid (S = (atK m en k).states) := hSe
    have hSl : S.length = np m := by rw [hSe]; exact hI.ls
    have HSl : Hid (S.length = np m) := hSl
    have Hnx : Hid (nx en (atK m en k).wait = none) := hnx
    have hbw2 : Below w.heap.size w w2 := Gr.below hg2 hB0
    have Hlen : Hid (ps.length = np m) := hS.len
    clear hSe hSl hnx hall
    obtain ⟨n, hn⟩ : ∃ n, n = np m := ⟨_, rfl⟩
    have Hn : Hid (n = np m) := hn
    rw [← hn] at hnp6
    have hmk1 := run_make_row' (P := Try.prog) 55 3 (.int .i64 0) 8 Try.underlying55 info_ints rfl .i64 .i64 n (by omega) (by omega)
    have hmk2 := run_make_row' (P := Try.prog) 56 60 (.slice none 0 0) 24 Try.underlying56 info_dones rfl .i64 .i64 n (by omega) (by omega)
    have hst0 : Blk ((w2.alloc (.cells (madeCells #[.int .i64 0] n) 3)).alloc (.cells (madeCells #[.slice none 0 0] n) 60)) w2.heap.size (ints (S.take 0 ++ List.replicate (n - 0) 0)) 3 := by
      rw [List.take_zero, List.nil_append, Nat.sub_zero, ← made_ints]
      exact Blk.alloc (heap_alloc_new w2 _) _
    have hls0 : Blk ((w2.alloc (.cells (madeCells #[.int .i64 0] n) 3)).alloc (.cells (madeCells #[.slice none 0 0] n) 60)) (w2.heap.size + 1) (([] : List Value) ++ List.replicate (n - 0) (Value.slice none 0 0)).toArray 60 := by
      rw [List.nil_append, Nat.sub_zero, ← made_nils]
      exact blk_newP (by simp)
    have hb0 : Below w2.heap.size w2 ((w2.alloc (.cells (madeCells #[.int .i64 0] n) 3)).alloc (.cells (madeCells #[.slice none 0 0] n) 60)) := ((Below.refl _ _).alloc (Nat.le_refl _) _).alloc (by simp) _
    rw [← hn]
    clear hn
    go_wp2
    clear hmk1 hmk2
    go_loopw [40] (fun s40 wr => ∃ (i : Nat) (L : List Value), s40 = .int .i64 i ∧ i ≤ n ∧ L.length = i ∧ Blk wr w2.heap.size (ints (S.take i ++ List.replicate (n - i) 0)) 3 ∧ Blk wr (w2.heap.size + 1) (L ++ List.replicate (n - i) (Value.slice none 0 0)).toArray 60 ∧ (∀ (j : Nat) (v : Value) (p : Pr), L[j]? = some v → ps[j]? = some p → RowsIn 5 dnC (w2.heap.size + 2) wr v p.dn) ∧ Below w2.heap.size w2 wr) (fun s40 _ => n - (intOf s40).toNat)
    case atStart => exact ⟨0, [], rfl, Nat.zero_le _, rfl, hst0, hls0, fun j v p hj => by simp at hj, hb0⟩
    case round =>
      clear hst0 hls0 hb0
      obtain ⟨i, L, rfl, hi, hL, hst, hls, hrows, hbr⟩ := hrel
      have HL : Hid (L.length = i) := hL
      clear hL
      by_cases hlt : i < n
      · obtain ⟨p, hp⟩ := get_of_lt (d := ps) (k := i) (by rw [Hlen.out, ← Hn.out]; exact hlt)
        obtain ⟨x, hx⟩ := get_of_lt (d := S) (k := i) (by rw [HSl.out, ← Hn.out]; exact hlt)
        have hxs : x = p.st := by
          have h1 := hS.st i p hp
          rw [← HS.out, hx] at h1
          cases h1; rfl
        subst hxs
        have hPr := hP.grow (kept_of_below' hbr)
        have cp := hPr.cell hp
        have hPd := (hPr.each p (List.mem_of_getElem? hp)).keep (KeptF.drew (KeptF.refl (fun _ => False) wr)) (fun _ _ e => e)
        have htold := told_any wr.drew _ p hPd (hdl p (List.mem_of_getElem? hp))
        have c6 := hPd.cells.2.1
        have hPlt : p.qb < w2.heap.size := (hP.each p (List.mem_of_getElem? hp)).core.blk.lt
        have hlq : p.qb < wr.heap.size := hPd.core.blk.lt
        have hsz : w2.heap.size + 2 ≤ wr.heap.size := hls.lt
        have hpl : pb < wr.heap.size := hPr.arr.lt
        have Hp : Hid (ps[i]? = some p) := hp
        have Hx : Hid (S[i]? = some p.st) := hx
        have hils : (i : Int) < n := by omega
        have g0 : (ints (S.take i ++ List.replicate (n - i) 0))[i]? = some (.int .i64 0) := ints_get (by
          have hlen : (S.take i).length = i := by rw [List.length_take, HSl.out, ← Hn.out]; omega
          rw [List.getElem?_append_right (by omega), hlen, Nat.sub_self, List.getElem?_replicate, if_pos (by omega)])
        have g1' : (L ++ List.replicate (n - i) (Value.slice none 0 0)).toArray[i]? = some (Value.slice none 0 0) := by
          rw [List.getElem?_toArray, List.getElem?_append_right (by rw [HL.out]; exact Nat.le_refl _), HL.out, Nat.sub_self, List.getElem?_replicate, if_pos (by omega)]
        clear hp hx
        go_wp2
        go_region_held3 (fun W => W.cell? ⟨p.qb, 9, none⟩ = some (.int .i64 p.st)) (first | assumption | (rw [World.cell?_setCell_other _ _ _ _ (fun e => by have e := congrArg Addr.block e; simp only at e; omega)]; assumption)) ((refine htold.mono ?_; rintro e3 w3 ⟨ao, cap, rfl, hb3, hr3⟩; have hst3 := hst.drew.keep (kept_of_below' hb3) (fun e => e); have hls3 := hls.drew.keep (kept_of_below' hb3) (fun e => e); have d6 := (hb3.cell (p := ⟨p.qb, 9, none⟩) hlq).trans c6; have f0 := hst3.frozen i; have f1 := hls3.frozen i; have e0 := (hst3.cell i).trans g0; have e1 := (hls3.cell i).trans g1'))
        all_goals
          go_wp2
          go_roundw
          case rel =>
            have hk1 : KeptF (fun j => j = w2.heap.size ∨ j = w2.heap.size + 1) w3 ((w3.setCell ⟨w2.heap.size, i, none⟩ (.int .i64 p.st)).setCell ⟨w2.heap.size + 1, i, none⟩ (.slice ao p.dn.length cap)) := ((KeptF.refl _ w3).setCell (p := ⟨w2.heap.size, i, none⟩) (.inl (.inl rfl)) _).setCell (p := ⟨w2.heap.size + 1, i, none⟩) (.inl (.inr rfl)) _
            have hst4 := (hst3.set i (.int .i64 p.st)).set_other (a := ⟨w2.heap.size + 1, i, none⟩) (show w2.heap.size ≠ w2.heap.size + 1 by omega) (.slice ao p.dn.length cap)
            have hls4 := (hls3.set_other (a := ⟨w2.heap.size, i, none⟩) (show w2.heap.size + 1 ≠ w2.heap.size by omega) (.int .i64 p.st)).set i (.slice ao p.dn.length cap)
            rw [fill_ints S n i p.st Hx.out (by rw [HSl.out, Hn.out])] at hst4
            have hfv := fill_vals L n (Value.slice none 0 0) (.slice ao p.dn.length cap) (by rw [HL.out]; exact hlt)
            rw [HL.out] at hfv
            rw [hfv] at hls4
            refine ⟨i + 1, L ++ [.slice ao p.dn.length cap], by go_num, hlt, by rw [List.length_append, HL.out]; rfl, hst4, hls4, fun j v q hj hq => ?_, ?_⟩
            · have hlj := get_lt hj
              rw [List.length_append, List.length_singleton, HL.out] at hlj
              by_cases hji : j < i
              · rw [List.getElem?_append_left (by rw [HL.out]; exact hji)] at hj
                exact (((hrows j v q hj hq).keep (KeptF.drew (KeptF.refl (fun _ => False) wr)) (fun _ e => e.elim)).keep (kept_of_below' hb3) (fun _ e => e.elim)).keep hk1 (fun k hk => by omega)
              · have e : j = i := by omega
                rw [e] at hj hq
                rw [List.getElem?_append_right (by rw [HL.out]; exact Nat.le_refl _), HL.out, Nat.sub_self] at hj
                simp only [List.getElem?_cons_zero, Option.some.injEq] at hj
                rw [Hp.out] at hq
                cases hq
                subst hj
                exact (hr3.mono hsz).keep hk1 (fun k hk => by omega)
            · refine hbr.trans ((Below.trans (KeptF.below (F := fun _ => False) (KeptF.drew (KeptF.refl _ wr)) (by omega) (fun _ e => e.elim)) (hb3.mono (by show w2.heap.size ≤ wr.heap.size; omega))).trans (KeptF.below hk1 (by have := hst3.lt; omega) (fun k hk => by omega)))
          case measure => simp [intOf]; omega
      · have hie : i = n := by omega
        subst hie
        go_wp2
        (try simp only [Exit.inBlock, Exit.then])
        refine bodyPost_ret (results_tmp4 rfl _ _ _) rfl ?_
        refine ⟨hbw2.trans (hbr.mono hbw2.size), .inr ⟨Ha.out, w2.heap.size, w2.heap.size + 1, k, L, by rw [← Hn.out]; rfl, ?_⟩⟩
        rw [Nat.sub_self] at hst hls
        rw [List.replicate_zero, List.append_nil] at hst hls
        rw [List.take_of_length_le (by rw [HSl.out, Hn.out]; exact Nat.le_refl _), HS.out] at hst
        refine ⟨Hnx.out, hst, hls, by rw [HL.out, Hn.out], fun j v l h1 h2 => ?_, hbw2.size, Nat.le_succ_of_le hbw2.size⟩
        obtain ⟨p, hp⟩ := get_of_lt (d := ps) (k := j) (by rw [Hlen.out, ← Hn.out, ← HL.out]; exact get_lt h1)
        have h3 := hS.dn j p hp
        rw [h2] at h3
        cases h3
        exact (hrows j v p h1 hp).mono (Nat.le_trans hbw2.size (Nat.le_add_right _ _))
  · have Ha : Hid (answer m en ≠ (0, 0)) := ha
    have h1 := answer_ne ha
    clear ha
    go_wp2
    (try simp only [Exit.inBlock, Exit.then])
    refine bodyPost_ret (results_tmp4 rfl _ _ _) rfl ?_
    exact ⟨Gr.below hg1 hB0, .inl ⟨Ha.out, rfl⟩⟩

theorem run_any (m : Mdl) (lv rv sv : Value) (R : List RuleV) (B : Nat) (en : Int) (w : World) (h : ModelAt w B lv rv sv m R) (hB : B ≤ w.heap.size) (hne : ∀ r ∈ m.rules, r.es.length ≤ 5864062014634) :
    Calls Try.prog 22 #[.agg #[.int .i64 m.procs, .int .i64 m.states, .int .i64 m.loads, lv, rv, sv], .int .i64 en] w fun e w' => Below w.heap.size w w' ∧
      ((answer m en ≠ (0, 0) ∧ e = .returned (.tuple #[.slice none 0 0, .slice none 0 0, .int .i64 (answer m en).1, .int .i64 (answer m en).2])) ∨
       (answer m en = (0, 0) ∧ ∃ sb lb k L, e = .returned (.tuple #[.slice (some ⟨sb, 0, none⟩) (np m) (np m), .slice (some ⟨lb, 0, none⟩) (np m) (np m), .int .i64 0, .int .i64 0]) ∧ RunAt w' m en sb lb k L)) := by
  refine (run_in m lv rv sv R B en w h hB hne).mono ?_
  rintro e w' ⟨g, hc | ⟨ha, sb, lb, k, L, he, hR⟩⟩
  · exact ⟨g, .inl hc⟩
  · exact ⟨g, .inr ⟨ha, sb, lb, k, L, he, hR.at⟩⟩

end Go.Proofs.Ytaieackeflmhgaa

namespace Go.Proofs.Ytaieackeflmhgaa
open Go.RowKit Go.Sort Go.Maps

theorem eql_nil {P : Program} {t e : TypeId} (ht : P.underlying t = some (.slice e)) (w : World) : (binOp .eql t (.slice none 0 0) (.slice none 0 0)).run P w = .ok (.bool true) w := by
  have h : ∀ d : Nat, (Op.equalIn (d + 1) t (.slice none 0 0) (.slice none 0 0)).run P w = .ok true w := fun d => by
    simp [Op.equalIn, run_underlying ht]
  simp only [binOp]
  simp [Op.equal, Op.maxDepth, h 9999]

theorem run_any2 (m : Mdl) (lv rv sv : Value) (R : List RuleV) (B : Nat) (en : Int) (w : World) (h : ModelAt w B lv rv sv m R) (hB : B ≤ w.heap.size) (hne : ∀ r ∈ m.rules, r.es.length ≤ 5864062014634) :
    Calls Try.prog 22 #[.agg #[.int .i64 m.procs, .int .i64 m.states, .int .i64 m.loads, lv, rv, sv], .int .i64 en] w fun e w' => Below w.heap.size w w' ∧ ∃ s l : Value, e = .returned (.tuple #[s, l, .int .i64 (answer m en).1, .int .i64 (answer m en).2]) ∧
      (answer m en ≠ (0, 0) → s = .slice none 0 0 ∧ l = .slice none 0 0) ∧
      (answer m en = (0, 0) → ∃ sb lb k L, s = .slice (some ⟨sb, 0, none⟩) (np m) (np m) ∧ l = .slice (some ⟨lb, 0, none⟩) (np m) (np m) ∧ RunAt w' m en sb lb k L) := by
  refine (run_any m lv rv sv R B en w h hB hne).mono ?_
  rintro e w' ⟨g, ⟨ha, rfl⟩ | ⟨ha, sb, lb, k, L, rfl, hR⟩⟩
  · exact ⟨g, _, _, rfl, fun _ => ⟨rfl, rfl⟩, fun e => absurd e ha⟩
  · exact ⟨g, _, _, by rw [ha], fun e => absurd ha e, fun _ => ⟨sb, lb, k, L, rfl, rfl, hR⟩⟩

theorem run_in2 (m : Mdl) (lv rv sv : Value) (R : List RuleV) (B : Nat) (en : Int) (w : World) (h : ModelAt w B lv rv sv m R) (hB : B ≤ w.heap.size) (hne : ∀ r ∈ m.rules, r.es.length ≤ 5864062014634) :
    Calls Try.prog 22 #[.agg #[.int .i64 m.procs, .int .i64 m.states, .int .i64 m.loads, lv, rv, sv], .int .i64 en] w fun e w' => Below w.heap.size w w' ∧ ∃ s l : Value, e = .returned (.tuple #[s, l, .int .i64 (answer m en).1, .int .i64 (answer m en).2]) ∧
      (answer m en ≠ (0, 0) → s = .slice none 0 0 ∧ l = .slice none 0 0) ∧
      (answer m en = (0, 0) → ∃ sb lb k L, s = .slice (some ⟨sb, 0, none⟩) (np m) (np m) ∧ l = .slice (some ⟨lb, 0, none⟩) (np m) (np m) ∧ RunIn w.heap.size w' m en sb lb k L) := by
  refine (run_in m lv rv sv R B en w h hB hne).mono ?_
  rintro e w' ⟨g, ⟨ha, rfl⟩ | ⟨ha, sb, lb, k, L, rfl, hR⟩⟩
  · exact ⟨g, _, _, rfl, fun _ => ⟨rfl, rfl⟩, fun e => absurd e ha⟩
  · exact ⟨g, _, _, by rw [ha], fun e => absurd ha e, fun _ => ⟨sb, lb, k, L, rfl, rfl, hR⟩⟩

end Go.Proofs.Ytaieackeflmhgaa

namespace Go.Proofs.Ytaieackeflmhgaa
open Go.RowKit Go.Sort Go.Maps

theorem set_get2 {c : Array Value} {o k : Nat} {v u : Value} (h : (c.setIfInBounds o v)[k]? = some u) : (k = o ∧ u = v) ∨ (k ≠ o ∧ c[k]? = some u) := by
  by_cases e : k = o
  · subst e
    left
    refine ⟨rfl, ?_⟩
    have hlt : k < (c.setIfInBounds k v).size := (Array.getElem?_eq_some_iff.1 h).1
    rw [Array.size_setIfInBounds] at hlt
    rw [Array.getElem?_setIfInBounds_self_of_lt hlt] at h
    exact (Option.some.inj h).symm
  · right
    rw [Array.getElem?_setIfInBounds_ne (fun e' => e e'.symm)] at h
    exact ⟨e, h⟩

/-- a cell is stored anywhere: a block has the size it had -/
theorem Blk.setAny {w : World} {b : Nat} {c : Array Value} {T : TypeId} (h : Blk w b c T) (g o : Nat) (v : Value) : ∃ c' : Array Value, Blk (w.setCell ⟨g, o, none⟩ v) b c' T ∧ c'.size = c.size ∧ ∀ k u, c[k]? = some u → c'[k]? = some u ∨ (b = g ∧ k = o ∧ c'[k]? = some v) := by
  by_cases e : b = g
  · subst e
    refine ⟨_, h.set o v, Array.size_setIfInBounds, fun k u hu => ?_⟩
    by_cases ek : k = o
    · subst ek
      right
      have hlt : k < c.size := (Array.getElem?_eq_some_iff.1 hu).1
      exact ⟨rfl, rfl, Array.getElem?_setIfInBounds_self_of_lt hlt⟩
    · left
      rw [Array.getElem?_setIfInBounds_ne (fun e' => ek e'.symm)]
      exact hu
  · exact ⟨c, h.set_other (a := ⟨g, o, none⟩) e v, rfl, fun k u hu => .inl hu⟩

theorem Blk.type {w : World} {b b' : Nat} {c c' : Array Value} {T T' : TypeId} (h : Blk w b c T) (h' : Blk w b' c' T') (hT : T ≠ T') : b ≠ b' := by
  intro e
  subst e
  have h1 : w.heap[b]? = some (.cells c T (0, 0)) := h
  have h2 : w.heap[b]? = some (.cells c' T' (0, 0)) := h'
  rw [h1] at h2
  simp only [Option.some.injEq, Obj.cells.injEq] at h2
  exact hT h2.2.1

/-- n of them, in a block of their own, from lo on and below hi -/
def Room (T : TypeId) (sz lo hi : Nat) (w : World) (v : Value) (n : Nat) : Prop :=
  ∃ ao cap, v = .slice ao n cap ∧ n ≤ cap ∧ (n ≠ 0 → ∃ g c, ao = some ⟨g, 0, none⟩ ∧ lo ≤ g ∧ g < hi ∧ Blk w g c T ∧ n * sz ≤ c.size)

section
variable {T : TypeId} {sz lo hi : Nat} {w : World} {v : Value} {n : Nat}
theorem Room.form (h : Room T sz lo hi w v n) : ∃ ao cap, v = .slice ao n cap ∧ n ≤ cap := by
  obtain ⟨ao, cap, h1, h2, _⟩ := h; exact ⟨ao, cap, h1, h2⟩
theorem Room.set (h : Room T sz lo hi w v n) (g o : Nat) (u : Value) : Room T sz lo hi (w.setCell ⟨g, o, none⟩ u) v n := by
  obtain ⟨ao, cap, h1, h2, h3⟩ := h
  refine ⟨ao, cap, h1, h2, fun hn => ?_⟩
  obtain ⟨b, c, h4, h5, h6, h7, h8⟩ := h3 hn
  obtain ⟨c', h9, h10, _⟩ := h7.setAny g o u
  exact ⟨b, c', h4, h5, h6, h9, by rw [h10]; exact h8⟩
theorem Room.keep {F : Nat → Prop} {w' : World} (h : Room T sz lo hi w v n) (k : KeptF F w w') (hF : ∀ i, lo ≤ i → i < hi → ¬ F i) : Room T sz lo hi w' v n := by
  obtain ⟨ao, cap, h1, h2, h3⟩ := h
  refine ⟨ao, cap, h1, h2, fun hn => ?_⟩
  obtain ⟨b, c, h4, h5, h6, h7, h8⟩ := h3 hn
  exact ⟨b, c, h4, h5, h6, h7.keep k (hF b h5 h6), h8⟩
theorem Room.at_ (h : Room T sz lo hi w v n) {j : Nat} (hj : j < n) : ∃ g c cap, v = .slice (some ⟨g, 0, none⟩) n cap ∧ n ≤ cap ∧ lo ≤ g ∧ g < hi ∧ Blk w g c T ∧ ∀ k, k < sz → ∃ u, c[j * sz + k]? = some u := by
  obtain ⟨ao, cap, h1, h2, h3⟩ := h
  obtain ⟨b, c, h4, h5, h6, h7, h8⟩ := h3 (by omega)
  subst h4
  refine ⟨b, c, cap, h1, h2, h5, h6, h7, fun k hk => ?_⟩
  have h9 : j * sz + sz ≤ n * sz := by
    have := Nat.mul_le_mul_right sz (Nat.succ_le_of_lt hj)
    rw [Nat.succ_mul] at this
    exact this
  exact ⟨c[j * sz + k]'(by omega), Array.getElem?_eq_getElem _⟩
theorem Own.room {α : Type} {E : Enc α} {w : World} {B : Nat} {v : Value} {l : List α} (h : Own E w B v l) : Room E.T E.sz B w.heap.size w v l.length := by
  rcases h.2 with ⟨h1, h2⟩ | ⟨g, cap, cur, h1, h2, h3, h4, _, h5, _⟩
  · exact ⟨none, 0, by rw [h2]; exact h1, by omega, fun hn => absurd h2 hn⟩
  · refine ⟨_, _, h1, h4, fun _ => ⟨g, cur, rfl, h2, Blk.lt (T := E.T) h3, h3, ?_⟩⟩
    rw [h5]
    exact Nat.mul_le_mul_right _ h4
end

/-- what was told: a row of its own, with no room behind -/
def RowsOn (lo hi : Nat) (w : World) (v : Value) (l : List Dn) : Prop :=
  ∃ ao, v = .slice ao l.length l.length ∧ (ao = none → l = []) ∧ (l ≠ [] → ∃ g c, ao = some ⟨g, 0, none⟩ ∧ lo ≤ g ∧ g < hi ∧ Blk w g c 69 ∧ ∀ (j : Nat) (x : Dn) (k : Nat) (u : Value), l[j]? = some x → (dnC x)[k]? = some u → c[j * 5 + k]? = some u)

section
variable {lo lo' hi hi' : Nat} {w w' : World} {v : Value} {l : List Dn}
theorem RowsOn.rows (h : RowsOn lo hi w v l) : RowsIn 5 dnC lo w v l := by
  obtain ⟨ao, h1, h2, h3⟩ := h
  refine ⟨ao, _, h1, Nat.le_refl _, fun hn => ?_⟩
  obtain ⟨g, c, h4, h5, _, h6, h7⟩ := h3 hn
  refine ⟨g, 0, h4, h5, h6.lt, fun j x k u hx hu => ?_⟩
  rw [h6.cell, Nat.zero_add]
  exact h7 j x k u hx hu
theorem RowsOn.mono (h : RowsOn lo hi w v l) (hl : lo' ≤ lo) (hh : hi ≤ hi') : RowsOn lo' hi' w v l := by
  obtain ⟨ao, h1, h2, h3⟩ := h
  refine ⟨ao, h1, h2, fun hn => ?_⟩
  obtain ⟨g, c, h4, h5, h5', h6, h7⟩ := h3 hn
  exact ⟨g, c, h4, by omega, by omega, h6, h7⟩
theorem RowsOn.keep {F : Nat → Prop} (h : RowsOn lo hi w v l) (k : KeptF F w w') (hF : ∀ i, lo ≤ i → i < hi → ¬ F i) : RowsOn lo hi w' v l := by
  obtain ⟨ao, h1, h2, h3⟩ := h
  refine ⟨ao, h1, h2, fun hn => ?_⟩
  obtain ⟨g, c, h4, h5, h5', h6, h7⟩ := h3 hn
  exact ⟨g, c, h4, h5, h5', h6.keep k (hF g h5 h5'), h7⟩
theorem RowsOn.room (h : RowsOn lo hi w v l) : Room 69 5 lo hi w v l.length := by
  obtain ⟨ao, h1, h2, h3⟩ := h
  refine ⟨ao, _, h1, Nat.le_refl _, fun hn => ?_⟩
  obtain ⟨g, c, h4, h5, h5', h6, h7⟩ := h3 (fun e => hn (by rw [e]; rfl))
  refine ⟨g, c, h4, h5, h5', h6, ?_⟩
  obtain ⟨x, hx⟩ := get_of_lt (d := l) (k := l.length - 1) (by omega)
  have h8 := h7 _ x 4 (.int .i64 x.st) hx rfl
  have := (Array.getElem?_eq_some_iff.1 h8).1
  omega
end

set_option maxRecDepth 100000 in
set_option maxHeartbeats 2000000 in
theorem told_on (w : World) (B : Nat) (p : Pr) (h : PAt w B p) (hl : p.dn.length ≤ 5000) :
    Calls Try.prog 53 #[.pointer (some ⟨p.qb, 0, none⟩)] w fun e w' => ∃ ao, e = .returned (.slice ao p.dn.length p.dn.length) ∧ Below w.heap.size w w' ∧ RowsOn w.heap.size w'.heap.size w' (.slice ao p.dn.length p.dn.length) p.dn := by
  obtain ⟨aod, capd, hdvf, hcapd⟩ := h.own.form'
  have c8 : w.cell? ⟨p.qb, 11, none⟩ = some (.slice aod p.dn.length capd) := by rw [← hdvf]; exact h.cells.2.2.2
  obtain ⟨j0, hj0, hy0, hy1, hy2⟩ := info_parts info_dp
  have hlq := h.core.blk.lt
  have hown0 : Own dpE (w.alloc (.cells #[] 69)) w.heap.size (.slice (some ⟨w.heap.size, 0, none⟩) 0 0) [] := Own.madeNil dpE w w.heap.size 0 #[] (Nat.le_refl _) (Nat.zero_le _) rfl
  have hsrc : Own dpE (w.alloc (.cells #[] 69)) B (.slice aod p.dn.length capd) p.dn := by
    rw [← hdvf]
    exact h.own.keep ((KeptF.refl (fun _ => False) w).alloc _) (fun _ _ e => e)
  have hb0 : Below w.heap.size w (w.alloc (.cells #[] 69)) := (Below.refl _ _).alloc (Nat.le_refl _) _
  clear hdvf
  go_enter Try.func53, Try.ntmps53
  go_wp2_with (at_builtin; refine wpList_append_all rfl (.tmp 9) (.tmp 13) 60 rfl dpE w.heap.size j0 _ 40 Try.underlying60 hj0 hy0 hy1 hy2 rfl (.slice (some ⟨w.heap.size, 0, none⟩) 0 0) (.slice aod p.dn.length capd) p.dn B rfl ?own rfl ?src ?b1 ?b2 ?hb ?k)
  case own => exact hown0
  case src => exact hsrc
  case b1 => unfold maxLen; omega
  case b2 => omega
  case hb => exact hb0.size
  case k =>
    intro v2 w2 hO2 hgr2
    have hb2 : Below w.heap.size w w2 := hb0.trans (KeptF.below (F := fun i => i = w.heap.size) (KeptF.of_grown hgr2 (fun k e _ => by simp [Value.ownBlock] at e; exact e.symm)) hb0.size (fun i hi => by omega))
    rcases hO2.form with ⟨hv, hn⟩ | ⟨g, cap, hv, hcap⟩
    · subst hv
      have hn0 : p.dn.length = 0 := by rw [hn]; rfl
      have Hn : Hid (p.dn = []) := hn
      rw [hn0]
      clear hn hn0
      go_wp2
      go_ret
      rw [Hn.out]
      exact ⟨none, rfl, hb2, none, rfl, fun _ => rfl, fun e => absurd rfl e⟩
    · subst hv
      clear hown0 hsrc hgr2 c8
      have hrow : RowsOn w.heap.size w2.heap.size w2 (.slice (some ⟨g, 0, none⟩) p.dn.length p.dn.length) p.dn := by
        obtain ⟨c, hc⟩ : ∃ c, Blk w2 g c 69 := by
          rcases hO2.2 with ⟨h1, _⟩ | ⟨g', cap', cur, h1, _, h3, _⟩
          · cases h1
          · simp only [Value.slice.injEq, Option.some.injEq, Addr.mk.injEq, and_true] at h1
            obtain ⟨rfl, _⟩ := h1
            exact ⟨cur, h3⟩
        refine ⟨_, rfl, fun e => (by cases e), fun _ => ⟨g, c, rfl, (hO2.lt rfl).1, hc.lt, hc, fun j x k u hx hu => ?_⟩⟩
        rw [← hc.cell]
        exact hO2.cell hx hu
      go_wp2
      go_ret
      exact ⟨_, rfl, hb2, hrow⟩

/-- what Run answers, in memory, from lo on, to be spoilt -/
structure RunOn (lo hi : Nat) (w : World) (m : Mdl) (en : Int) (sb lb k : Nat) (L : List Value) : Prop where
  stop : nx en (atK m en k).wait = none
  st : Blk w sb (ints (atK m en k).states) 3
  ls : Blk w lb L.toArray 60
  len : L.length = np m
  rows : ∀ (p : Nat) (v : Value) (l : List Dn), L[p]? = some v → (atK m en k).done[p]? = some l → RowsOn lo hi w v l
  lows : lo ≤ sb ∧ sb < hi
  lowl : lo ≤ lb ∧ lb < hi

theorem RunOn.keep {lo hi : Nat} {F : Nat → Prop} {w w' : World} {m : Mdl} {en : Int} {sb lb k : Nat} {L : List Value} (h : RunOn lo hi w m en sb lb k L) (hk : KeptF F w w') (hF : ∀ i, lo ≤ i → i < hi → ¬ F i) : RunOn lo hi w' m en sb lb k L :=
  ⟨h.stop, h.st.keep hk (hF _ h.lows.1 h.lows.2), h.ls.keep hk (hF _ h.lowl.1 h.lowl.2), h.len, fun p v l h1 h2 => (h.rows p v l h1 h2).keep hk hF, h.lows, h.lowl⟩

set_option maxRecDepth 100000 in
set_option maxHeartbeats 8000000 in
theorem run_on (m : Mdl) (lv rv sv : Value) (R : List RuleV) (B : Nat) (en : Int) (w : World) (h : ModelAt w B lv rv sv m R) (hB : B ≤ w.heap.size) (hne : ∀ r ∈ m.rules, r.es.length ≤ 5864062014634) :
    Calls Try.prog 22 #[.agg #[.int .i64 m.procs, .int .i64 m.states, .int .i64 m.loads, lv, rv, sv], .int .i64 en] w fun e w' => Below w.heap.size w w' ∧
      ((answer m en ≠ (0, 0) ∧ e = .returned (.tuple #[.slice none 0 0, .slice none 0 0, .int .i64 (answer m en).1, .int .i64 (answer m en).2])) ∨
       (answer m en = (0, 0) ∧ ∃ sb lb k L, e = .returned (.tuple #[.slice (some ⟨sb, 0, none⟩) (np m) (np m), .slice (some ⟨lb, 0, none⟩) (np m) (np m), .int .i64 0, .int .i64 0]) ∧ RunOn w.heap.size w'.heap.size w' m en sb lb k L)) := by
  obtain ⟨W0, hW0⟩ : ∃ W0, W0 = w.alloc (.cells #[.int .i64 m.procs, .int .i64 m.states, .int .i64 m.loads, lv, rv, sv] 31) := ⟨_, rfl⟩
  have HW0 : Hid (W0 = w.alloc (.cells #[.int .i64 m.procs, .int .i64 m.states, .int .i64 m.loads, lv, rv, sv] 31)) := hW0
  have hB0 : Below w.heap.size w W0 := by rw [hW0]; exact (Below.refl _ _).alloc (Nat.le_refl _) _
  have hmb : Blk W0 w.heap.size #[.int .i64 m.procs, .int .i64 m.states, .int .i64 m.loads, lv, rv, sv] 31 := by rw [hW0]; exact heap_alloc_new w _
  have k0 := Gr.cells (v := .int .i64 m.procs) (hmb.cell 0)
  have k1 := Gr.cells (v := .int .i64 m.states) (hmb.cell 1)
  have k2 := Gr.cells (v := .int .i64 m.loads) (hmb.cell 2)
  have k3 := Gr.cells (v := lv) (hmb.cell 3)
  have k4 := Gr.cells (v := rv) (hmb.cell 4)
  have k5 := Gr.cells (v := sv) (hmb.cell 5)
  have hBW : B ≤ W0.heap.size := Nat.le_trans hB hB0.size
  have hM0 := h.keep (hB0.mono hB)
  have hg0 := Gr.refl W0
  clear hW0
  have hck := check_any m lv rv sv R B en W0 hM0 hBW hne
  go_enter Try.func22, Try.ntmps22
  go_upto_region 1 with fail
  rw [← HW0.out]
  clear HW0
  go_wp2_with fail
  refine hck.mono ?_
  rintro e1 w1 ⟨rfl, g1⟩
  clear hck
  have hg1 : Gr W0 w1 := g1
  by_cases ha : answer m en = (0, 0)
  · have Ha : Hid (answer m en = (0, 0)) := ha
    rw [ha]
    clear ha
    obtain ⟨hv, hFew⟩ := answer_zero Ha.out
    obtain ⟨hRt, hen0, hen⟩ := right_of_valid hv
    have hp1 := hRt.lim.p1
    have hp2 := hRt.lim.p2
    have hnp6 : np m ≤ 6 := by unfold np; omega
    clear hv
    have hev := events_any w1 B lv rv sv m R en (hM0.keep (hg1.mono hBW)) (Nat.le_trans hBW hg1.size) hRt hen
    go_wp2_with fail
    refine hev.mono ?_
    rintro e2 w2 ⟨k, pb, rfl, g2, hcase⟩
    clear hev k0 k1 k2 k3 k4 k5
    have hg2 : Gr W0 w2 := Gr.trans hg1 g2
    rcases hcase with ⟨hk, -, hnx, ps, hP, hS⟩ | ⟨-, hF⟩
    rotate_left
    · exact absurd hFew hF
    have hI := atK_inv hRt hen k
    have hall : (atK m en k).all ≤ k := atK_all m en k
    have hdl : ∀ p ∈ ps, p.dn.length ≤ 5000 := fun p hp => by
      obtain ⟨i, hi⟩ := List.getElem?_of_mem hp
      have := hI.dl i p.dn (hS.dn i p hi)
      omega
    obtain ⟨S, hSe⟩ : ∃ S, S = (atK m en k).states := ⟨_, rfl⟩
    have HS : Hid (S = (atK m en k).states) := hSe
    have hSl : S.length = np m := by rw [hSe]; exact hI.ls
    have HSl : Hid (S.length = np m) := hSl
    have Hnx : Hid (nx en (atK m en k).wait = none) := hnx
    have hbw2 : Below w.heap.size w w2 := Gr.below hg2 hB0
    have Hlen : Hid (ps.length = np m) := hS.len
    clear hSe hSl hnx hall
    obtain ⟨n, hn⟩ : ∃ n, n = np m := ⟨_, rfl⟩
    have Hn : Hid (n = np m) := hn
    rw [← hn] at hnp6
    have hmk1 := run_make_row' (P := Try.prog) 55 3 (.int .i64 0) 8 Try.underlying55 info_ints rfl .i64 .i64 n (by omega) (by omega)
    have hmk2 := run_make_row' (P := Try.prog) 56 60 (.slice none 0 0) 24 Try.underlying56 info_dones rfl .i64 .i64 n (by omega) (by omega)
    have hst0 : Blk ((w2.alloc (.cells (madeCells #[.int .i64 0] n) 3)).alloc (.cells (madeCells #[.slice none 0 0] n) 60)) w2.heap.size (ints (S.take 0 ++ List.replicate (n - 0) 0)) 3 := by
      rw [List.take_zero, List.nil_append, Nat.sub_zero, ← made_ints]
      exact Blk.alloc (heap_alloc_new w2 _) _
    have hls0 : Blk ((w2.alloc (.cells (madeCells #[.int .i64 0] n) 3)).alloc (.cells (madeCells #[.slice none 0 0] n) 60)) (w2.heap.size + 1) (([] : List Value) ++ List.replicate (n - 0) (Value.slice none 0 0)).toArray 60 := by
      rw [List.nil_append, Nat.sub_zero, ← made_nils]
      exact blk_newP (by simp)
    have hb0 : Below w2.heap.size w2 ((w2.alloc (.cells (madeCells #[.int .i64 0] n) 3)).alloc (.cells (madeCells #[.slice none 0 0] n) 60)) := ((Below.refl _ _).alloc (Nat.le_refl _) _).alloc (by simp) _
    rw [← hn]
    clear hn
    go_wp2
    clear hmk1 hmk2
    go_loopw [40] (fun s40 wr => ∃ (i : Nat) (L : List Value), s40 = .int .i64 i ∧ i ≤ n ∧ L.length = i ∧ Blk wr w2.heap.size (ints (S.take i ++ List.replicate (n - i) 0)) 3 ∧ Blk wr (w2.heap.size + 1) (L ++ List.replicate (n - i) (Value.slice none 0 0)).toArray 60 ∧ (∀ (j : Nat) (v : Value) (p : Pr), L[j]? = some v → ps[j]? = some p → RowsOn (w2.heap.size + 2) wr.heap.size wr v p.dn) ∧ Below w2.heap.size w2 wr) (fun s40 _ => n - (intOf s40).toNat)
    case atStart => exact ⟨0, [], rfl, Nat.zero_le _, rfl, hst0, hls0, fun j v p hj => by simp at hj, hb0⟩
    case round =>
      clear hst0 hls0 hb0
      obtain ⟨i, L, rfl, hi, hL, hst, hls, hrows, hbr⟩ := hrel
      have HL : Hid (L.length = i) := hL
      clear hL
      by_cases hlt : i < n
      · obtain ⟨p, hp⟩ := get_of_lt (d := ps) (k := i) (by rw [Hlen.out, ← Hn.out]; exact hlt)
        obtain ⟨x, hx⟩ := get_of_lt (d := S) (k := i) (by rw [HSl.out, ← Hn.out]; exact hlt)
        have hxs : x = p.st := by
          have h1 := hS.st i p hp
          rw [← HS.out, hx] at h1
          cases h1; rfl
        subst hxs
        have hPr := hP.grow (kept_of_below' hbr)
        have cp := hPr.cell hp
        have hPd := (hPr.each p (List.mem_of_getElem? hp)).keep (KeptF.drew (KeptF.refl (fun _ => False) wr)) (fun _ _ e => e)
        have htold := told_on wr.drew _ p hPd (hdl p (List.mem_of_getElem? hp))
        have c6 := hPd.cells.2.1
        have hPlt : p.qb < w2.heap.size := (hP.each p (List.mem_of_getElem? hp)).core.blk.lt
        have hlq : p.qb < wr.heap.size := hPd.core.blk.lt
        have hsz : w2.heap.size + 2 ≤ wr.heap.size := hls.lt
        have hpl : pb < wr.heap.size := hPr.arr.lt
        have Hp : Hid (ps[i]? = some p) := hp
        have Hx : Hid (S[i]? = some p.st) := hx
        have hils : (i : Int) < n := by omega
        have g0 : (ints (S.take i ++ List.replicate (n - i) 0))[i]? = some (.int .i64 0) := ints_get (by
          have hlen : (S.take i).length = i := by rw [List.length_take, HSl.out, ← Hn.out]; omega
          rw [List.getElem?_append_right (by omega), hlen, Nat.sub_self, List.getElem?_replicate, if_pos (by omega)])
        have g1' : (L ++ List.replicate (n - i) (Value.slice none 0 0)).toArray[i]? = some (Value.slice none 0 0) := by
          rw [List.getElem?_toArray, List.getElem?_append_right (by rw [HL.out]; exact Nat.le_refl _), HL.out, Nat.sub_self, List.getElem?_replicate, if_pos (by omega)]
        clear hp hx
        go_wp2
        go_region_held3 (fun W => W.cell? ⟨p.qb, 9, none⟩ = some (.int .i64 p.st)) (first | assumption | (rw [World.cell?_setCell_other _ _ _ _ (fun e => by have e := congrArg Addr.block e; simp only at e; omega)]; assumption)) ((refine htold.mono ?_; rintro e3 w3 ⟨ao, rfl, hb3, hr3⟩; have hst3 := hst.drew.keep (kept_of_below' hb3) (fun e => e); have hls3 := hls.drew.keep (kept_of_below' hb3) (fun e => e); have d6 := (hb3.cell (p := ⟨p.qb, 9, none⟩) hlq).trans c6; have f0 := hst3.frozen i; have f1 := hls3.frozen i; have e0 := (hst3.cell i).trans g0; have e1 := (hls3.cell i).trans g1'))
        all_goals
          go_wp2
          go_roundw
          case rel =>
            have hk1 : KeptF (fun j => j = w2.heap.size ∨ j = w2.heap.size + 1) w3 ((w3.setCell ⟨w2.heap.size, i, none⟩ (.int .i64 p.st)).setCell ⟨w2.heap.size + 1, i, none⟩ (.slice ao p.dn.length p.dn.length)) := ((KeptF.refl _ w3).setCell (p := ⟨w2.heap.size, i, none⟩) (.inl (.inl rfl)) _).setCell (p := ⟨w2.heap.size + 1, i, none⟩) (.inl (.inr rfl)) _
            have hst4 := (hst3.set i (.int .i64 p.st)).set_other (a := ⟨w2.heap.size + 1, i, none⟩) (show w2.heap.size ≠ w2.heap.size + 1 by omega) (.slice ao p.dn.length p.dn.length)
            have hls4 := (hls3.set_other (a := ⟨w2.heap.size, i, none⟩) (show w2.heap.size + 1 ≠ w2.heap.size by omega) (.int .i64 p.st)).set i (.slice ao p.dn.length p.dn.length)
            rw [fill_ints S n i p.st Hx.out (by rw [HSl.out, Hn.out])] at hst4
            have hfv := fill_vals L n (Value.slice none 0 0) (.slice ao p.dn.length p.dn.length) (by rw [HL.out]; exact hlt)
            rw [HL.out] at hfv
            rw [hfv] at hls4
            refine ⟨i + 1, L ++ [.slice ao p.dn.length p.dn.length], by go_num, hlt, by rw [List.length_append, HL.out]; rfl, hst4, hls4, fun j v q hj hq => ?_, ?_⟩
            · have hlj := get_lt hj
              rw [List.length_append, List.length_singleton, HL.out] at hlj
              by_cases hji : j < i
              · rw [List.getElem?_append_left (by rw [HL.out]; exact hji)] at hj
                exact ((((hrows j v q hj hq).keep (KeptF.drew (KeptF.refl (fun _ => False) wr)) (fun _ _ _ e => e)).keep (kept_of_below' hb3) (fun _ _ _ e => e)).keep hk1 (fun k hk _ => by omega)).mono (Nat.le_refl _) (Nat.le_trans hb3.size hk1.size)
              · have e : j = i := by omega
                rw [e] at hj hq
                rw [List.getElem?_append_right (by rw [HL.out]; exact Nat.le_refl _), HL.out, Nat.sub_self] at hj
                simp only [List.getElem?_cons_zero, Option.some.injEq] at hj
                rw [Hp.out] at hq
                cases hq
                subst hj
                exact ((hr3.mono hsz (Nat.le_refl _)).keep hk1 (fun k hk _ => by omega)).mono (Nat.le_refl _) hk1.size
            · refine hbr.trans ((Below.trans (KeptF.below (F := fun _ => False) (KeptF.drew (KeptF.refl _ wr)) (by omega) (fun _ e => e.elim)) (hb3.mono (by show w2.heap.size ≤ wr.heap.size; omega))).trans (KeptF.below hk1 (by have := hst3.lt; omega) (fun k hk => by omega)))
          case measure => simp [intOf]; omega
      · have hie : i = n := by omega
        subst hie
        go_wp2
        (try simp only [Exit.inBlock, Exit.then])
        refine bodyPost_ret (results_tmp4 rfl _ _ _) rfl ?_
        refine ⟨hbw2.trans (hbr.mono hbw2.size), .inr ⟨Ha.out, w2.heap.size, w2.heap.size + 1, k, L, by rw [← Hn.out]; rfl, ?_⟩⟩
        rw [Nat.sub_self] at hst hls
        rw [List.replicate_zero, List.append_nil] at hst hls
        rw [List.take_of_length_le (by rw [HSl.out, Hn.out]; exact Nat.le_refl _), HS.out] at hst
        refine ⟨Hnx.out, hst, hls, by rw [HL.out, Hn.out], fun j v l h1 h2 => ?_, ⟨hbw2.size, hst.lt⟩, ⟨Nat.le_succ_of_le hbw2.size, hls.lt⟩⟩
        obtain ⟨p, hp⟩ := get_of_lt (d := ps) (k := j) (by rw [Hlen.out, ← Hn.out, ← HL.out]; exact get_lt h1)
        have h3 := hS.dn j p hp
        rw [h2] at h3
        cases h3
        exact (hrows j v p h1 hp).mono (Nat.le_trans hbw2.size (Nat.le_add_right _ _)) (Nat.le_refl _)
  · have Ha : Hid (answer m en ≠ (0, 0)) := ha
    have h1 := answer_ne ha
    clear ha
    go_wp2
    (try simp only [Exit.inBlock, Exit.then])
    refine bodyPost_ret (results_tmp4 rfl _ _ _) rfl ?_
    exact ⟨Gr.below hg1 hB0, .inl ⟨Ha.out, rfl⟩⟩

set_option maxRecDepth 100000 in
set_option maxHeartbeats 4000000 in
theorem see_on (w : World) (nb : Nat) (m : Mdl) (en : Int) (s : NS) (V : NV) (x : Int) (h : NetAt w nb m en s V) (hm : Right m) (hdl : ∀ (i : Nat) (a : NP), s.ps[i]? = some a → a.dn.length ≤ 5000) :
    Calls Try.prog 29 #[.pointer (some ⟨nb, 0, none⟩), .int .i64 x] w fun e w' => Below w.heap.size w w' ∧ ((isP m x = false ∧ e = .returned (.tuple #[.int .i64 0, .slice none 0 0])) ∨ (0 ≤ x ∧ x < m.procs ∧ ∃ (a : NP) (ao : Option Addr), s.ps[x.toNat]? = some a ∧ e = .returned (.tuple #[.int .i64 a.st, .slice ao a.dn.length a.dn.length]) ∧ RowsOn w.heap.size w'.heap.size w' (.slice ao a.dn.length a.dn.length) a.dn)) := by
  have hhas := has_any w nb m en s V x h hm
  have hl := h.blk.lt
  have hp1 := hm.lim.p1
  have hp2 := hm.lim.p2
  cases hx : isP m x with
  | false =>
    rw [hx] at hhas
    go_enter Try.func29, Try.ntmps29
    go_wp2_with fail
    refine hhas.mono ?_
    rintro e1 w1 ⟨rfl, hb⟩
    clear hhas
    go_wp2
    go_ret2
    exact ⟨hb, .inl ⟨trivial, rfl⟩⟩
  | true =>
    rw [hx] at hhas
    obtain ⟨hx0, hx1⟩ := isP_iff.1 hx
    obtain ⟨i, hi⟩ : ∃ i : Nat, x = (i : Int) := ⟨x.toNat, by omega⟩
    subst hi
    have hin : i < np m := by unfold np; omega
    obtain ⟨p, hp⟩ := get_of_lt (d := V.ps) (k := i) (by rw [h.plen]; exact hin)
    obtain ⟨a, ha⟩ := get_of_lt (d := s.ps) (k := i) (by rw [h.slen]; exact hin)
    have hrl := h.rel i p a hp ha
    go_enter Try.func29, Try.ntmps29
    go_wp2_with fail
    refine hhas.mono ?_
    rintro e1 w1 ⟨rfl, hb⟩
    clear hhas hx
    have hN := h.grow (kept_of_below' hb)
    have hPp := hN.procs.each p (List.mem_of_getElem? hp)
    have c6 : w1.cell? ⟨nb, 6, none⟩ = some (.slice (some ⟨V.pb, 0, none⟩) (np m) (np m)) := hN.blk.cell 6
    have cp := hN.procs.cell hp
    have c9 := hPp.cells.2.1
    rw [hrl.st] at c9
    have hln := hN.blk.lt
    have hlp := hN.procs.arr.lt
    have hlq := hPp.core.blk.lt
    have hil : (i : Int) < (np m : Int) := by omega
    have htold := told_on w1.drew V.B p (hPp.keep (KeptF.drew (KeptF.refl (fun _ => False) w1)) (fun _ _ e => e)) (by rw [hrl.dn]; exact hdl i a ha)
    rw [hrl.dn] at htold
    have Ha : Hid (s.ps[i]? = some a) := ha
    clear hp ha
    go_wp2
    go_region_held3 (fun W => W.cell? ⟨nb, 6, none⟩ = some (.slice (some ⟨V.pb, 0, none⟩) (np m) (np m)) ∧ W.cell? ⟨V.pb, i, none⟩ = some (.pointer (some ⟨p.qb, 0, none⟩)) ∧ W.cell? ⟨p.qb, 9, none⟩ = some (.int .i64 a.st)) (first | assumption | exact ⟨c6, cp, c9⟩ | exact ⟨d6, dp, d9⟩) ((refine htold.mono ?_; rintro e3 w3 ⟨ao, rfl, hb3, hr3⟩; have d6 := (hb3.cell (p := ⟨nb, 6, none⟩) hln).trans c6; have dp := (hb3.cell (p := ⟨V.pb, i, none⟩) hlp).trans cp; have d9 := (hb3.cell (p := ⟨p.qb, 9, none⟩) hlq).trans c9))
    all_goals
      go_wp2
      go_ret2
      refine ⟨?_, .inr ⟨hx0, hx1, a, ao, by simpa using Ha.out, rfl, ?_⟩⟩
      · have b1 : Below w.heap.size w1 w1.drew := ⟨rfl, rfl, rfl, Nat.le_refl _, fun _ _ => rfl⟩
        exact hb.trans (b1.trans (hb3.mono hb.size))
      · exact hr3.mono hb.size (Nat.le_refl _)

end Go.Proofs.Ytaieackeflmhgaa

namespace Go.Proofs.Ytaieackeflmhgaa
open Go.RowKit Go.Sort Go.Maps

theorem ModOwn.whole {w : World} {lo : Nat} {lv rv sv : Value} {m : Mdl} {RS : List RuleS} (h : ModOwn w lo lv rv m RS) (hs : Own stE w lo sv m.starts) : ModelAt w w.heap.size lv rv sv m (RS.map RuleS.v) := by
  refine ⟨h.links.rows, ⟨RowsAt.map (f := RuleS.v) h.rules.rows, fun x hx => ?_⟩, hs.rows, ?_⟩
  · obtain ⟨y, hy, rfl⟩ := List.mem_map.1 hx
    exact (h.ems y hy).rows
  · rw [List.map_map]; exact h.same

set_option maxRecDepth 100000 in
set_option maxHeartbeats 8000000 in
theorem made_all (m : Mdl) (lv rv sv : Value) (R : List RuleV) (B : Nat) (w : World) (h : ModelAt w B lv rv sv m R) (hB : B ≤ w.heap.size)
    (b1 : m.links.length * 24 ≤ 140737488351232) (b2 : m.rules.length * 56 ≤ 140737488351232) (b3 : m.starts.length * 24 ≤ 140737488351232) (b4 : ∀ r ∈ m.rules, r.es.length * 24 ≤ 140737488351232) :
    Calls Try.prog 15 #[.agg #[.int .i64 m.procs, .int .i64 m.states, .int .i64 m.loads, lv, rv, sv]] w fun e w' => ∃ (lv' rv' sv' : Value) (RS : List RuleS), e = .returned (.agg #[.int .i64 m.procs, .int .i64 m.states, .int .i64 m.loads, lv', rv', sv']) ∧ ModOwn w' w.heap.size lv' rv' m RS ∧ Own stE w' w.heap.size sv' m.starts ∧ Below w.heap.size w w' := by
  obtain ⟨ao, cap, hlv, hcap⟩ := RowsAt.form h.links
  subst hlv
  obtain ⟨aor, capr, hrv, hcapr⟩ := RowsAt.form h.rules.1
  rw [h.rlen] at hrv hcapr
  subst hrv
  obtain ⟨aos, caps, hsv, hcaps⟩ := RowsAt.form h.starts
  subst hsv
  obtain ⟨il, hil, hil0, hil1, hil2⟩ := info_parts info_lk
  obtain ⟨ie, hie, hie0, hie1, hie2⟩ := info_parts info_et
  obtain ⟨ist, hist, hist0, hist1, hist2⟩ := info_parts info_st
  obtain ⟨ir, hir, hir0, hir1, hir2⟩ := info_parts info_rl
  obtain ⟨W1, hW1⟩ : ∃ W1, W1 = ((w.alloc (.cells #[.int .i64 m.procs, .int .i64 m.states, .int .i64 m.loads, .slice ao m.links.length cap, .slice aor m.rules.length capr, .slice aos m.starts.length caps] 26)).alloc (.cells #[.int .i64 0, .int .i64 0, .int .i64 0, .slice none 0 0, .slice none 0 0, .slice none 0 0] 31)).alloc (.cells #[.int .i64 m.procs, .int .i64 m.states, .int .i64 m.loads, .slice none 0 0, .slice none 0 0, .slice none 0 0] 31) := ⟨_, rfl⟩
  have HW1 : Hid (W1 = ((w.alloc (.cells #[.int .i64 m.procs, .int .i64 m.states, .int .i64 m.loads, .slice ao m.links.length cap, .slice aor m.rules.length capr, .slice aos m.starts.length caps] 26)).alloc (.cells #[.int .i64 0, .int .i64 0, .int .i64 0, .slice none 0 0, .slice none 0 0, .slice none 0 0] 31)).alloc (.cells #[.int .i64 m.procs, .int .i64 m.states, .int .i64 m.loads, .slice none 0 0, .slice none 0 0, .slice none 0 0] 31)) := hW1
  have hbA : Below w.heap.size w W1 := by rw [hW1]; exact (((Below.refl _ _).alloc (Nat.le_refl _) _).alloc (by simp) _).alloc (by simp; omega) _
  have hmb : Blk W1 w.heap.size #[.int .i64 m.procs, .int .i64 m.states, .int .i64 m.loads, .slice ao m.links.length cap, .slice aor m.rules.length capr, .slice aos m.starts.length caps] 26 := by rw [hW1]; exact Blk.alloc (Blk.alloc (heap_alloc_new w _) _) _
  have hrb : Blk W1 (w.heap.size + 1) #[.int .i64 0, .int .i64 0, .int .i64 0, .slice none 0 0, .slice none 0 0, .slice none 0 0] 31 := by rw [hW1]; exact Blk.alloc (blk_newQ (by simp)) _
  have hob : Blk W1 (w.heap.size + 2) #[.int .i64 m.procs, .int .i64 m.states, .int .i64 m.loads, .slice none 0 0, .slice none 0 0, .slice none 0 0] 31 := by rw [hW1]; exact blk_newQ (by simp)
  have hzA : w.heap.size + 3 ≤ W1.heap.size := by rw [hW1]; simp
  clear hW1
  go_enter Try.func15, Try.ntmps15
  go_upto_region 2 with fail
  rw [← HW1.out]
  clear HW1
  go_wp2
  go_loopw [4] (fun s wr => ∃ (k : Nat) (v : Value), s = .int .i64 k ∧ k ≤ m.links.length ∧ Blk wr (w.heap.size + 2) #[.int .i64 m.procs, .int .i64 m.states, .int .i64 m.loads, v, .slice none 0 0, .slice none 0 0] 31 ∧ Own lkE wr (w.heap.size + 3) v (m.links.take k) ∧ KeptF (fun i => i = w.heap.size + 2) W1 wr ∧ (∀ g, v.ownBlock = some g → W1.heap.size ≤ g)) (fun s _ => m.links.length - (intOf s).toNat)
  case atStart => exact ⟨0, _, rfl, Nat.zero_le _, hob, by rw [List.take_zero]; exact Own.nil _ _ _, KeptF.refl _ _, fun g hg => by cases hg⟩
  case round =>
    obtain ⟨k, v, rfl, hk, hob2, hO, hK, hvA⟩ := hrel
    have hbw : Below w.heap.size w wr := hbA.trans (KeptF.below hK hbA.size (fun i hi => by omega))
    have hsz : w.heap.size + 3 ≤ wr.heap.size := Nat.le_trans hzA hK.size
    have c0 : wr.cell? ⟨w.heap.size, 3, none⟩ = some (.slice ao m.links.length cap) := (hK.cell (p := ⟨w.heap.size, 3, none⟩) (show w.heap.size < W1.heap.size by omega) (by simp)).trans (hmb.cell 3)
    by_cases hlt : k < m.links.length
    · obtain ⟨x, hx⟩ := get_of_lt hlt
      obtain ⟨b, off, hao, hbB, hc⟩ := RowsAt.at_ (h.keep (hbw.mono hB)).links hx
      subst hao
      have x0 := hc 0 (.int .i64 x.f) rfl
      have x1 := hc 1 (.int .i64 x.t) rfl
      have x2 := hc 2 (.int .i64 x.a) rfl
      simp only [Nat.add_zero] at x0
      have Hx : Hid (m.links[k]? = some x) := hx
      have hlk := take_len hlt
      have Hlk : Hid ((m.links.take k).length = k) := hlk
      obtain ⟨ao2, cap2, hvf, hcap2⟩ := hO.form'
      rw [hlk] at hvf hcap2
      subst hvf
      have o3 : wr.cell? ⟨w.heap.size + 2, 3, none⟩ = some (.slice ao2 k cap2) := hob2.cell 3
      have hcc := newCells (wr.alloc (.cells #[.int .i64 x.f, .int .i64 x.t, .int .i64 x.a] 93)) [.int .i64 x.f, .int .i64 x.t, .int .i64 x.a] 94
      rw [World.size_alloc] at hcc
      have hcc2 : ∀ j u, ([.int .i64 x.f, .int .i64 x.t, .int .i64 x.a])[j]? = some u → ((wr.alloc (.cells #[.int .i64 x.f, .int .i64 x.t, .int .i64 x.a] 93)).alloc (.cells #[.int .i64 x.f, .int .i64 x.t, .int .i64 x.a] 94)).cell? ((⟨wr.heap.size + 1, 0, none⟩ : Addr).add j) = some u := fun j u hu => hcc j u hu
      have hWW : KeptF (fun _ => False) wr ((wr.alloc (.cells #[.int .i64 x.f, .int .i64 x.t, .int .i64 x.a] 93)).alloc (.cells #[.int .i64 x.f, .int .i64 x.t, .int .i64 x.a] 94)) := ((KeptF.refl _ wr).alloc _).alloc _
      have hWl := hWW.size
      have hown0 : ((wr.alloc (.cells #[.int .i64 x.f, .int .i64 x.t, .int .i64 x.a] 93)).alloc (.cells #[.int .i64 x.f, .int .i64 x.t, .int .i64 x.a] 94)).ownsRow (w.heap.size + 3) 94 3 (.slice ao2 k cap2) k (flat lkE (m.links.take k)) := by
        have := hO.keep hWW (fun _ _ e => e)
        unfold Own at this
        rw [Hlk.out] at this
        exact this
      have hlb : b < wr.heap.size := block_lt_of_cell x0
      have hlo := hob2.lt
      clear hlk hx hc hcc
      go_wp2_with (at_builtin; refine wpList_append_ownX rfl (.tmp 33) (.tmp 41) 27 rfl (w.heap.size + 3) 94 il _ 3 24 Try.underlying27 hil hil0 hil1 hil2 rfl (by decide) (.slice ao2 k cap2) k (flat lkE (m.links.take k)) rfl ?own ⟨wr.heap.size + 1, 0, none⟩ 1 1 [.int .i64 x.f, .int .i64 x.t, .int .i64 x.a] rfl ?len ?cells ?one ?b1 ?b2 ?hb ?k)
      case own => exact hown0
      case len => rfl
      case cells => exact hcc2
      case one => exact three_one
      case b1 => unfold maxLen; omega
      case b2 => omega
      case hb => exact Nat.le_trans hsz hWl
      case k =>
        intro v2 w2 hown2 hgr2 hfr2
        have hOb : ∀ g, (Value.slice ao2 k cap2).ownBlock = some g → w.heap.size + 3 ≤ g := fun g hg => (hO.lt hg).1
        have hK2 : KeptF (fun g => (Value.slice ao2 k cap2).ownBlock = some g) wr w2 := (hWW.weaken (fun _ _ e => e.elim)).trans (KeptF.of_grown hgr2 (fun k h _ => h))
        have hob3 := hob2.keep hK2 (fun e => by have := hOb _ e; omega)
        have o3b : w2.cell? ⟨w.heap.size + 2, 3, none⟩ = some (.slice ao2 k cap2) := hob3.cell 3
        have o3f : w2.frozen? ⟨w.heap.size + 2, 3, none⟩ = false := hob3.frozen 3
        have hO2 : Own lkE w2 (w.heap.size + 3) v2 (m.links.take (k + 1)) := by
          rw [take_snoc Hx.out]
          exact Own.snoc (by rw [Hlk.out]; exact hown2)
        have hKA : KeptF (fun i => i = w.heap.size + 2) W1 w2 := hK.trans' hK2 (fun i hi e => by have := hvA i e; omega)
        have hv2A : ∀ g, v2.ownBlock = some g → W1.heap.size ≤ g := fun g hg => by
          rcases hfr2 g hg with h1 | h1
          · exact hvA g h1
          · have := hK.size; omega
        have hO2lt : ∀ g, v2.ownBlock = some g → w.heap.size + 3 ≤ g := fun g hg => (hO2.lt hg).1
        obtain ⟨ao3, cap3, hv3, hcap3⟩ := hO2.form'
        have hl1 : (m.links.take (k + 1)).length = k + 1 := by rw [List.length_take]; omega
        rw [hl1] at hv3
        subst hv3
        clear hl1
        clear hown2 hgr2 hfr2 hown0 hcc2 hWW hO x0 x1 x2 c0 o3
        go_wp2
        go_roundw
        case rel =>
          refine ⟨k + 1, _, by go_num, hlt, hob3.set 3 _, hO2.keep ((KeptF.refl (fun i => i = w.heap.size + 2) w2).setCell (p := ⟨w.heap.size + 2, 3, none⟩) (.inl rfl) _) (fun g hg e => by have := hO2lt g hg; omega), hKA.setCell (p := ⟨w.heap.size + 2, 3, none⟩) (.inl rfl) _, hv2A⟩
        case measure => simp [intOf]; omega
    · have hke : k = m.links.length := by omega
      subst hke
      rw [List.take_length] at hO
      obtain ⟨wA, hwA⟩ : ∃ wA, wA = wr := ⟨_, rfl⟩
      subst hwA
      obtain ⟨v1, hv1⟩ : ∃ v1, v1 = v := ⟨_, rfl⟩
      subst hv1
      have hL := hO
      have hKA := hK
      have hobA := hob2
      have hmA := hmb.keep hK (by omega)
      have hrA := hrb.keep hK (by omega)
      have hbwA := hbw
      have hszA := hsz
      clear hO hK hob2 hk hvA hbA hmb hrb hob hzA hbw hsz
      go_wp2
      clear c0 hlt
      go_loopw [6] (fun s wr => ∃ (k : Nat) (v2 : Value) (RS : List RuleS), s = .int .i64 k ∧ k ≤ m.rules.length ∧ Blk wr (w.heap.size + 2) #[.int .i64 m.procs, .int .i64 m.states, .int .i64 m.loads, v1, v2, .slice none 0 0] 31 ∧ Own rlE wr (w.heap.size + 3) v2 RS ∧ RS.map RuleS.r = m.rules.take k ∧ (∀ x ∈ RS, Own etE wr (w.heap.size + 3) x.ev x.r.es ∧ ∀ g, x.ev.ownBlock = some g → wA.heap.size ≤ g ∧ v2.ownBlock ≠ some g) ∧ KeptF (fun i => i = w.heap.size + 2) wA wr ∧ (∀ g, v2.ownBlock = some g → wA.heap.size ≤ g)) (fun s _ => m.rules.length - (intOf s).toNat)
      case atStart => exact ⟨0, _, [], rfl, Nat.zero_le _, hobA, Own.nil _ _ _, by simp, fun x hx => by simp at hx, KeptF.refl _ _, fun g hg => by cases hg⟩
      case round =>
        obtain ⟨w1, hw1⟩ : ∃ w1, w1 = wr := ⟨_, rfl⟩
        subst hw1
        obtain ⟨k, v2, RS, rfl, hk, hob2, hRO, hmap, hEm, hK, hvA⟩ := hrel
        have hbw : Below w.heap.size w w1 := hbwA.trans (KeptF.below hK hbwA.size (fun i hi => by omega))
        have hsz : w.heap.size + 3 ≤ w1.heap.size := Nat.le_trans hszA hK.size
        have hm1 := hmA.keep hK (by omega)
        have c0 : w1.cell? ⟨w.heap.size, 4, none⟩ = some (.slice aor m.rules.length capr) := hm1.cell 4
        by_cases hlt : k < m.rules.length
        · obtain ⟨⟨r, ev⟩, hRx, hmr, hE⟩ := h.rule hlt
          have hmr : m.rules[k]? = some r := hmr
          have hE : EmitsAt w B ev r.es := hE
          have hre := b4 r (List.mem_of_getElem? hmr)
          obtain ⟨aoe, cape, rfl, hcape⟩ := RowsAt.form hE
          obtain ⟨b, off, hao, hbB, hc⟩ := RowsAt.at_ (h.keep (hbw.mono hB)).rules.1 hRx
          subst hao
          have x0 := hc 0 (.int .i64 r.p) rfl
          have x1 := hc 1 (.int .i64 r.s) rfl
          have x2 := hc 2 (.int .i64 r.l) rfl
          have x3 := hc 3 (.int .i64 r.n) rfl
          have x4 := hc 4 (.slice aoe r.es.length cape) rfl
          simp only [Nat.add_zero] at x0
          have Hr : Hid (m.rules[k]? = some r) := hmr
          have hlb : b < w1.heap.size := block_lt_of_cell x0
          have hrb1 : Blk (w1.alloc (.cells #[.int .i64 r.p, .int .i64 r.s, .int .i64 r.l, .int .i64 r.n, .slice aoe r.es.length cape] 97)) w1.heap.size #[.int .i64 r.p, .int .i64 r.s, .int .i64 r.l, .int .i64 r.n, .slice aoe r.es.length cape] 97 := heap_alloc_new w1 _
          have hzr : (w1.alloc (.cells #[.int .i64 r.p, .int .i64 r.s, .int .i64 r.l, .int .i64 r.n, .slice aoe r.es.length cape] 97)).heap.size = w1.heap.size + 1 := by simp
          have Hzr : Hid ((w1.alloc (.cells #[.int .i64 r.p, .int .i64 r.s, .int .i64 r.l, .int .i64 r.n, .slice aoe r.es.length cape] 97)).heap.size = w1.heap.size + 1) := hzr
          have Hmap : Hid (RS.map RuleS.r = m.rules.take k) := hmap
          have hRl : RS.length = k := by have := congrArg List.length hmap; rw [List.length_map, take_len hlt] at this; exact this
          have HRl : Hid (RS.length = k) := hRl
          have hKR : KeptF (fun _ => False) w1 (w1.alloc (.cells #[.int .i64 r.p, .int .i64 r.s, .int .i64 r.l, .int .i64 r.n, .slice aoe r.es.length cape] 97)) := (KeptF.refl _ w1).alloc _
          clear hc hRx hmr hmap hRl hzr
          go_wp2
          clear x0 x1 x2 x3 x4 c0
          go_loopw [8, 9] (fun s8 s9 wr => ∃ (i : Nat) (l : Value), s8 = l ∧ s9 = .int .i64 i ∧ i ≤ r.es.length ∧ Own etE wr (w1.heap.size + 1) l (r.es.take i) ∧ KeptF (fun _ => False) (w1.alloc (.cells #[.int .i64 r.p, .int .i64 r.s, .int .i64 r.l, .int .i64 r.n, .slice aoe r.es.length cape] 97)) wr) (fun _ s9 _ => r.es.length - (intOf s9).toNat)
          case atStart => exact ⟨0, _, rfl, rfl, Nat.zero_le _, by rw [List.take_zero]; exact Own.nil _ _ _, KeptF.refl _ _⟩
          case round =>
            obtain ⟨i, l, rfl, rfl, hi, hO, hKi⟩ := hrel
            have hri := hrb1.keep hKi (fun e => e)
            have hszi : w1.heap.size + 1 ≤ wr.heap.size := by have := hKi.size; rw [Hzr.out] at this; exact this
            have hK1i : KeptF (fun _ => False) w1 wr := hKR.trans hKi
            have r4 : wr.cell? ⟨w1.heap.size, 4, none⟩ = some (.slice aoe r.es.length cape) := hri.cell 4
            by_cases hli : i < r.es.length
            · obtain ⟨e, he⟩ := get_of_lt hli
              have hbi : Below w.heap.size w wr := hbw.trans (KeptF.below hK1i hbw.size (fun i hi => hi.elim))
              obtain ⟨eb, eo, hao, hebB, hec⟩ := RowsAt.at_ (RowsAt.keep hE (hbi.mono hB)) he
              subst hao
              have y0 := hec 0 (.int .i64 e.k) rfl
              have y1 := hec 1 (.int .i64 e.d) rfl
              have y2 := hec 2 (.int .i64 e.l) rfl
              simp only [Nat.add_zero] at y0
              have He : Hid (r.es[i]? = some e) := he
              have hlk := take_len hli
              have Hlk : Hid ((r.es.take i).length = i) := hlk
              obtain ⟨ao2, cap2, hvf, hcap2⟩ := hO.form'
              rw [hlk] at hvf hcap2
              subst hvf
              have hcc := newCells (wr.alloc (.cells #[.int .i64 e.k, .int .i64 e.d, .int .i64 e.l] 100)) [.int .i64 e.k, .int .i64 e.d, .int .i64 e.l] 101
              rw [World.size_alloc] at hcc
              have hcc2 : ∀ j u, ([.int .i64 e.k, .int .i64 e.d, .int .i64 e.l])[j]? = some u → ((wr.alloc (.cells #[.int .i64 e.k, .int .i64 e.d, .int .i64 e.l] 100)).alloc (.cells #[.int .i64 e.k, .int .i64 e.d, .int .i64 e.l] 101)).cell? ((⟨wr.heap.size + 1, 0, none⟩ : Addr).add j) = some u := fun j u hu => hcc j u hu
              have hWW : KeptF (fun _ => False) wr ((wr.alloc (.cells #[.int .i64 e.k, .int .i64 e.d, .int .i64 e.l] 100)).alloc (.cells #[.int .i64 e.k, .int .i64 e.d, .int .i64 e.l] 101)) := ((KeptF.refl _ wr).alloc _).alloc _
              have hWl := hWW.size
              have hown0 : ((wr.alloc (.cells #[.int .i64 e.k, .int .i64 e.d, .int .i64 e.l] 100)).alloc (.cells #[.int .i64 e.k, .int .i64 e.d, .int .i64 e.l] 101)).ownsRow (w1.heap.size + 1) 101 3 (.slice ao2 i cap2) i (flat etE (r.es.take i)) := by
                have := hO.keep hWW (fun _ _ e => e)
                unfold Own at this
                rw [Hlk.out] at this
                exact this
              have hleb : eb < wr.heap.size := block_lt_of_cell y0
              have hlri := hri.lt
              clear hlk he hec hcc
              go_wp2_with (at_builtin; refine wpList_append_ownX rfl (.tmp 68) (.tmp 76) 98 rfl (w1.heap.size + 1) 101 ie _ 3 24 Try.underlying98 hie hie0 hie1 hie2 rfl (by decide) (.slice ao2 i cap2) i (flat etE (r.es.take i)) rfl ?own ⟨wr.heap.size + 1, 0, none⟩ 1 1 [.int .i64 e.k, .int .i64 e.d, .int .i64 e.l] rfl ?len ?cells ?one ?b1 ?b2 ?hb ?k)
              case own => exact hown0
              case len => rfl
              case cells => exact hcc2
              case one => exact three_one
              case b1 => unfold maxLen; omega
              case b2 => omega
              case hb => exact Nat.le_trans hszi hWl
              case k =>
                intro l2 w2 hown2 hgr2 hfr2
                have hK2 : KeptF (fun g => (Value.slice ao2 i cap2).ownBlock = some g) wr w2 := (hWW.weaken (fun _ _ e => e.elim)).trans (KeptF.of_grown hgr2 (fun k h _ => h))
                have hO2 : Own etE w2 (w1.heap.size + 1) l2 (r.es.take (i + 1)) := by
                  rw [take_snoc He.out]
                  exact Own.snoc (by rw [Hlk.out]; exact hown2)
                have hKi2 : KeptF (fun _ => False) _ w2 := hKi.trans' hK2 (fun g hg e => by have := (hO.lt e).1; rw [Hzr.out] at hg; omega)
                clear hown2 hgr2 hfr2 hown0 hcc2 hWW y0 y1 y2 r4
                go_wp2
                go_roundw
                case rel => exact ⟨i + 1, l2, rfl, by go_num, hli, hO2, hKi2⟩
                case measure => simp [intOf]; omega
            · have hie' : i = r.es.length := by omega
              subst hie'
              rw [List.take_length] at hO
              obtain ⟨aol, capl, hlf, hcapl⟩ := hO.form'
              have z0 : wr.cell? ⟨w1.heap.size, 0, none⟩ = some (.int .i64 r.p) := hri.cell 0
              have z1 : wr.cell? ⟨w1.heap.size, 1, none⟩ = some (.int .i64 r.s) := hri.cell 1
              have z2 : wr.cell? ⟨w1.heap.size, 2, none⟩ = some (.int .i64 r.l) := hri.cell 2
              have z3 : wr.cell? ⟨w1.heap.size, 3, none⟩ = some (.int .i64 r.n) := hri.cell 3
              have HO : Hid (Own etE wr (w1.heap.size + 1) (.slice aol r.es.length capl) r.es) := by rw [hlf] at hO; exact hO
              subst hlf
              clear hO
              have hob3 := hob2.keep hK1i (fun e => e)
              obtain ⟨ao2, cap2, hvf, hcap2⟩ := hRO.form'
              rw [HRl.out] at hvf hcap2
              subst hvf
              have o4 : wr.cell? ⟨w.heap.size + 2, 4, none⟩ = some (.slice ao2 k cap2) := hob3.cell 4
              have hcc2 : ∀ j u, ([.int .i64 r.p, .int .i64 r.s, .int .i64 r.l, .int .i64 r.n, .slice aol r.es.length capl])[j]? = some u → (wr.alloc (.cells #[.int .i64 r.p, .int .i64 r.s, .int .i64 r.l, .int .i64 r.n, .slice aol r.es.length capl] 103)).cell? ((⟨wr.heap.size, 0, none⟩ : Addr).add j) = some u := fun j u hu => newCells wr [.int .i64 r.p, .int .i64 r.s, .int .i64 r.l, .int .i64 r.n, .slice aol r.es.length capl] 103 j u hu
              have hone : ∀ u ∈ ([.int .i64 r.p, .int .i64 r.s, .int .i64 r.l, .int .i64 r.n, .slice aol r.es.length capl] : List Value), u.oneCell' = true := by
                intro u hu
                simp only [List.mem_cons, List.not_mem_nil, or_false] at hu
                rcases hu with rfl | rfl | rfl | rfl | rfl <;> rfl
              have hWW : KeptF (fun _ => False) wr (wr.alloc (.cells #[.int .i64 r.p, .int .i64 r.s, .int .i64 r.l, .int .i64 r.n, .slice aol r.es.length capl] 103)) := (KeptF.refl _ wr).alloc _
              have hWl := hWW.size
              have hown0 : (wr.alloc (.cells #[.int .i64 r.p, .int .i64 r.s, .int .i64 r.l, .int .i64 r.n, .slice aol r.es.length capl] 103)).ownsRow (w.heap.size + 3) 103 5 (.slice ao2 k cap2) k (flat rlE RS) := by
                have := (hRO.keep hK1i (fun _ _ e => e)).keep hWW (fun _ _ e => e)
                unfold Own at this
                rw [HRl.out] at this
                exact this
              have hlo := hob3.lt
              have hlri := hri.lt
              go_wp2_with (at_builtin; refine wpList_append_ownX rfl (.tmp 79) (.tmp 90) 28 rfl (w.heap.size + 3) 103 ir _ 5 56 Try.underlying28 hir hir0 hir1 hir2 rfl (by decide) (.slice ao2 k cap2) k (flat rlE RS) rfl ?own ⟨wr.heap.size, 0, none⟩ 1 1 [.int .i64 r.p, .int .i64 r.s, .int .i64 r.l, .int .i64 r.n, .slice aol r.es.length capl] rfl ?len ?cells ?one ?b1 ?b2 ?hb ?k)
              case own => exact hown0
              case len => rfl
              case cells => exact hcc2
              case one => exact hone
              case b1 => unfold maxLen; omega
              case b2 => omega
              case hb => exact Nat.le_trans (by omega) hWl
              case k =>
                intro v3 w2 hown2 hgr2 hfr2
                have hvb : ∀ g, (Value.slice ao2 k cap2).ownBlock = some g → w.heap.size + 3 ≤ g ∧ g < w1.heap.size := fun g hg => hRO.lt hg
                have hK2 : KeptF (fun g => (Value.slice ao2 k cap2).ownBlock = some g) wr w2 := (hWW.weaken (fun _ _ e => e.elim)).trans (KeptF.of_grown hgr2 (fun k h _ => h))
                have hK12 : KeptF (fun g => (Value.slice ao2 k cap2).ownBlock = some g) w1 w2 := (hK1i.weaken (fun _ _ e => e.elim)).trans hK2
                have hob4 := hob3.keep hK2 (fun e => by have := (hvb _ e).1; omega)
                have o4b : w2.cell? ⟨w.heap.size + 2, 4, none⟩ = some (.slice ao2 k cap2) := hob4.cell 4
                have o4f : w2.frozen? ⟨w.heap.size + 2, 4, none⟩ = false := hob4.frozen 4
                have hO2 : Own rlE w2 (w.heap.size + 3) v3 (RS ++ [⟨r, aol, r.es.length, capl⟩]) := Own.snoc (by rw [HRl.out]; exact hown2)
                have hO2lt : ∀ g, v3.ownBlock = some g → w.heap.size + 3 ≤ g := fun g hg => (hO2.lt hg).1
                have hfr : ∀ g, v3.ownBlock = some g → (Value.slice ao2 k cap2).ownBlock = some g ∨ wr.heap.size ≤ g := fun g hg => by
                  rcases hfr2 g hg with h1 | h1
                  · exact .inl h1
                  · exact .inr (by omega)
                have hKA2 : KeptF (fun i => i = w.heap.size + 2) wA w2 := hK.trans' hK12 (fun i hi e => by have := hvA i e; omega)
                have hv3A : ∀ g, v3.ownBlock = some g → wA.heap.size ≤ g := fun g hg => by
                  rcases hfr g hg with h1 | h1
                  · exact hvA g h1
                  · have := hK.size; omega
                have HE2 : Hid (∀ x ∈ RS ++ [(⟨r, aol, r.es.length, capl⟩ : RuleS)], Own etE w2 (w.heap.size + 3) x.ev x.r.es ∧ ∀ g, x.ev.ownBlock = some g → wA.heap.size ≤ g ∧ v3.ownBlock ≠ some g) := fun x hx => by
                  rcases List.mem_append.1 hx with hx | hx
                  · obtain ⟨h1, h2⟩ := hEm x hx
                    refine ⟨h1.keep hK12 (fun g hg e => (h2 g hg).2 e), fun g hg => ⟨(h2 g hg).1, fun e => ?_⟩⟩
                    rcases hfr g e with h3 | h3
                    · exact (h2 g hg).2 h3
                    · have := (h1.lt hg).2; omega
                  · simp at hx
                    subst hx
                    have h1 : Own etE wr (w1.heap.size + 1) (.slice aol r.es.length capl) r.es := HO.out
                    refine ⟨(h1.keep hK2 (fun g hg e => by have := (h1.lt hg).1; have := (hvb g e).2; omega)).mono (by omega), fun g hg => ⟨by have := (h1.lt hg).1; have := hK.size; omega, fun e => ?_⟩⟩
                    rcases hfr g e with h3 | h3
                    · have := (h1.lt hg).1; have := (hvb g h3).2; omega
                    · have := (h1.lt hg).2; omega
                obtain ⟨ao3, cap3, hv3, hcap3⟩ := hO2.form'
                have hl1 : (RS ++ [(⟨r, aol, r.es.length, capl⟩ : RuleS)]).length = k + 1 := by rw [List.length_append, HRl.out]; rfl
                rw [hl1] at hv3
                subst hv3
                clear hl1 hown2 hgr2 hfr2 hown0 hcc2 hone hWW z0 z1 z2 z3 r4 o4 hEm hRO
                go_wp2
                go_roundw
                case rel =>
                  have ks : ∀ W : World, KeptF (fun i => i = w.heap.size + 2) W (W.setCell ⟨w.heap.size + 2, 4, none⟩ (.slice ao3 (k + 1) cap3)) := fun W => (KeptF.refl (fun i => i = w.heap.size + 2) W).setCell (p := ⟨w.heap.size + 2, 4, none⟩) (.inl rfl) _
                  refine ⟨k + 1, _, RS ++ [⟨r, aol, r.es.length, capl⟩], by go_num, hlt, hob4.set 4 _, hO2.keep (ks w2) (fun g hg e => by have := hO2lt g hg; omega), ?_, ?_, hKA2.setCell (p := ⟨w.heap.size + 2, 4, none⟩) (.inl rfl) _, hv3A⟩
                  · rw [List.map_append, Hmap.out, take_snoc Hr.out]; rfl
                  · intro x hx
                    obtain ⟨h1, h2⟩ := HE2.out x hx
                    exact ⟨h1.keep (ks w2) (fun g hg e => by have := (h1.lt hg).1; omega), h2⟩
                case measure => simp [intOf]; omega
        · have hke : k = m.rules.length := by omega
          subst hke
          rw [List.take_length] at hmap
          obtain ⟨wB, hwB⟩ : ∃ wB, wB = w1 := ⟨_, rfl⟩
          subst hwB
          have hob := hob2
          have hL := hL.keep hK (fun g hg e => by have := (hL.lt hg).1; omega)
          have hmb := hm1
          have hrb := hrA.keep hK (by omega)
          have hbA := hbw
          have hzA := hsz
          have hEm3 : ∀ x ∈ RS, Own etE wB (w.heap.size + 3) x.ev x.r.es := fun x hx => (hEm x hx).1
          clear hEm
          clear hob2 hm1 hrA hmA hbw hsz hbwA hszA hK hKA hvA hk hobA
          go_wp2
          clear c0 hlt
          go_loopw [11] (fun s wr => ∃ (k : Nat) (v : Value), s = .int .i64 k ∧ k ≤ m.starts.length ∧ Blk wr (w.heap.size + 2) #[.int .i64 m.procs, .int .i64 m.states, .int .i64 m.loads, v1, v2, v] 31 ∧ Own stE wr (w.heap.size + 3) v (m.starts.take k) ∧ KeptF (fun i => i = w.heap.size + 2) wB wr ∧ (∀ g, v.ownBlock = some g → wB.heap.size ≤ g)) (fun s _ => m.starts.length - (intOf s).toNat)
          case atStart => exact ⟨0, _, rfl, Nat.zero_le _, hob, by rw [List.take_zero]; exact Own.nil _ _ _, KeptF.refl _ _, fun g hg => by cases hg⟩
          case round =>
            obtain ⟨k, v, rfl, hk, hob2, hO, hK, hvA⟩ := hrel
            have hbw : Below w.heap.size w wr := hbA.trans (KeptF.below hK hbA.size (fun i hi => by omega))
            have hsz : w.heap.size + 3 ≤ wr.heap.size := Nat.le_trans hzA hK.size
            have c0 : wr.cell? ⟨w.heap.size, 5, none⟩ = some (.slice aos m.starts.length caps) := (hK.cell (p := ⟨w.heap.size, 5, none⟩) (show w.heap.size < wB.heap.size by omega) (by simp)).trans (hmb.cell 5)
            by_cases hlt : k < m.starts.length
            · obtain ⟨x, hx⟩ := get_of_lt hlt
              obtain ⟨b, off, hao, hbB, hc⟩ := RowsAt.at_ (h.keep (hbw.mono hB)).starts hx
              subst hao
              have x0 := hc 0 (.int .i64 x.p) rfl
              have x1 := hc 1 (.int .i64 x.t) rfl
              have x2 := hc 2 (.int .i64 x.l) rfl
              simp only [Nat.add_zero] at x0
              have Hx : Hid (m.starts[k]? = some x) := hx
              have hlk := take_len hlt
              have Hlk : Hid ((m.starts.take k).length = k) := hlk
              obtain ⟨ao2, cap2, hvf, hcap2⟩ := hO.form'
              rw [hlk] at hvf hcap2
              subst hvf
              have o5 : wr.cell? ⟨w.heap.size + 2, 5, none⟩ = some (.slice ao2 k cap2) := hob2.cell 5
              have hcc := newCells (wr.alloc (.cells #[.int .i64 x.p, .int .i64 x.t, .int .i64 x.l] 72)) [.int .i64 x.p, .int .i64 x.t, .int .i64 x.l] 73
              rw [World.size_alloc] at hcc
              have hcc2 : ∀ j u, ([.int .i64 x.p, .int .i64 x.t, .int .i64 x.l])[j]? = some u → ((wr.alloc (.cells #[.int .i64 x.p, .int .i64 x.t, .int .i64 x.l] 72)).alloc (.cells #[.int .i64 x.p, .int .i64 x.t, .int .i64 x.l] 73)).cell? ((⟨wr.heap.size + 1, 0, none⟩ : Addr).add j) = some u := fun j u hu => hcc j u hu
              have hWW : KeptF (fun _ => False) wr ((wr.alloc (.cells #[.int .i64 x.p, .int .i64 x.t, .int .i64 x.l] 72)).alloc (.cells #[.int .i64 x.p, .int .i64 x.t, .int .i64 x.l] 73)) := ((KeptF.refl _ wr).alloc _).alloc _
              have hWl := hWW.size
              have hown0 : ((wr.alloc (.cells #[.int .i64 x.p, .int .i64 x.t, .int .i64 x.l] 72)).alloc (.cells #[.int .i64 x.p, .int .i64 x.t, .int .i64 x.l] 73)).ownsRow (w.heap.size + 3) 73 3 (.slice ao2 k cap2) k (flat stE (m.starts.take k)) := by
                have := hO.keep hWW (fun _ _ e => e)
                unfold Own at this
                rw [Hlk.out] at this
                exact this
              have hlb : b < wr.heap.size := block_lt_of_cell x0
              have hlo := hob2.lt
              clear hlk hx hc hcc
              go_wp2_with (at_builtin; refine wpList_append_ownX rfl (.tmp 106) (.tmp 114) 29 rfl (w.heap.size + 3) 73 ist _ 3 24 Try.underlying29 hist hist0 hist1 hist2 rfl (by decide) (.slice ao2 k cap2) k (flat stE (m.starts.take k)) rfl ?own ⟨wr.heap.size + 1, 0, none⟩ 1 1 [.int .i64 x.p, .int .i64 x.t, .int .i64 x.l] rfl ?len ?cells ?one ?b1 ?b2 ?hb ?k)
              case own => exact hown0
              case len => rfl
              case cells => exact hcc2
              case one => exact three_one
              case b1 => unfold maxLen; omega
              case b2 => omega
              case hb => exact Nat.le_trans hsz hWl
              case k =>
                intro v2 w2 hown2 hgr2 hfr2
                have hOb : ∀ g, (Value.slice ao2 k cap2).ownBlock = some g → w.heap.size + 3 ≤ g := fun g hg => (hO.lt hg).1
                have hK2 : KeptF (fun g => (Value.slice ao2 k cap2).ownBlock = some g) wr w2 := (hWW.weaken (fun _ _ e => e.elim)).trans (KeptF.of_grown hgr2 (fun k h _ => h))
                have hob3 := hob2.keep hK2 (fun e => by have := hOb _ e; omega)
                have o5b : w2.cell? ⟨w.heap.size + 2, 5, none⟩ = some (.slice ao2 k cap2) := hob3.cell 5
                have o5f : w2.frozen? ⟨w.heap.size + 2, 5, none⟩ = false := hob3.frozen 5
                have hO2 : Own stE w2 (w.heap.size + 3) v2 (m.starts.take (k + 1)) := by
                  rw [take_snoc Hx.out]
                  exact Own.snoc (by rw [Hlk.out]; exact hown2)
                have hKA : KeptF (fun i => i = w.heap.size + 2) wB w2 := hK.trans' hK2 (fun i hi e => by have := hvA i e; omega)
                have hv2A : ∀ g, v2.ownBlock = some g → wB.heap.size ≤ g := fun g hg => by
                  rcases hfr2 g hg with h1 | h1
                  · exact hvA g h1
                  · have := hK.size; omega
                have hO2lt : ∀ g, v2.ownBlock = some g → w.heap.size + 3 ≤ g := fun g hg => (hO2.lt hg).1
                obtain ⟨ao3, cap3, hv3, hcap3⟩ := hO2.form'
                have hl1 : (m.starts.take (k + 1)).length = k + 1 := by rw [List.length_take]; omega
                rw [hl1] at hv3
                subst hv3
                clear hl1
                clear hown2 hgr2 hfr2 hown0 hcc2 hWW hO x0 x1 x2 c0 o5
                go_wp2
                go_roundw
                case rel =>
                  refine ⟨k + 1, _, by go_num, hlt, hob3.set 5 _, hO2.keep ((KeptF.refl (fun i => i = w.heap.size + 2) w2).setCell (p := ⟨w.heap.size + 2, 5, none⟩) (.inl rfl) _) (fun g hg e => by have := hO2lt g hg; omega), hKA.setCell (p := ⟨w.heap.size + 2, 5, none⟩) (.inl rfl) _, hv2A⟩
                case measure => simp [intOf]; omega
            · have hke : k = m.starts.length := by omega
              subst hke
              rw [List.take_length] at hO
              have hO3 := hO
              have k6 : ∀ u0 u1 u2 u3 u4 u5, KeptF (fun i => i = w.heap.size + 1) wr ((((((wr.setCell ⟨w.heap.size + 1, 0, none⟩ u0).setCell ⟨w.heap.size + 1, 1, none⟩ u1).setCell ⟨w.heap.size + 1, 2, none⟩ u2).setCell ⟨w.heap.size + 1, 3, none⟩ u3).setCell ⟨w.heap.size + 1, 4, none⟩ u4).setCell ⟨w.heap.size + 1, 5, none⟩ u5) := fun u0 u1 u2 u3 u4 u5 =>
                ((((((KeptF.refl (fun i => i = w.heap.size + 1) wr).setCell (p := ⟨w.heap.size + 1, 0, none⟩) (.inl rfl) u0).setCell (p := ⟨w.heap.size + 1, 1, none⟩) (.inl rfl) u1).setCell (p := ⟨w.heap.size + 1, 2, none⟩) (.inl rfl) u2).setCell (p := ⟨w.heap.size + 1, 3, none⟩) (.inl rfl) u3).setCell (p := ⟨w.heap.size + 1, 4, none⟩) (.inl rfl) u4).setCell (p := ⟨w.heap.size + 1, 5, none⟩) (.inl rfl) u5
              have hrb3 := hrb.keep hK (by omega)
              have q0 : wr.cell? ⟨w.heap.size + 1, 0, none⟩ = some (.int .i64 0) := hrb3.cell 0
              have q1 : wr.cell? ⟨w.heap.size + 1, 1, none⟩ = some (.int .i64 0) := hrb3.cell 1
              have q2 : wr.cell? ⟨w.heap.size + 1, 2, none⟩ = some (.int .i64 0) := hrb3.cell 2
              have q3 : wr.cell? ⟨w.heap.size + 1, 3, none⟩ = some (.slice none 0 0) := hrb3.cell 3
              have q4 : wr.cell? ⟨w.heap.size + 1, 4, none⟩ = some (.slice none 0 0) := hrb3.cell 4
              have q5 : wr.cell? ⟨w.heap.size + 1, 5, none⟩ = some (.slice none 0 0) := hrb3.cell 5
              have qf := hrb3.frozen
              have p0 : wr.cell? ⟨w.heap.size + 2, 0, none⟩ = some (.int .i64 m.procs) := hob2.cell 0
              have p1 : wr.cell? ⟨w.heap.size + 2, 1, none⟩ = some (.int .i64 m.states) := hob2.cell 1
              have p2 : wr.cell? ⟨w.heap.size + 2, 2, none⟩ = some (.int .i64 m.loads) := hob2.cell 2
              have p3 : wr.cell? ⟨w.heap.size + 2, 3, none⟩ = some v1 := hob2.cell 3
              have p4 : wr.cell? ⟨w.heap.size + 2, 4, none⟩ = some v2 := hob2.cell 4
              have p5 : wr.cell? ⟨w.heap.size + 2, 5, none⟩ = some v := hob2.cell 5
              obtain ⟨ga1, gc1, hf1, _⟩ := hL.form'
              obtain ⟨ga2, gc2, hf2, _⟩ := hRO.form'
              obtain ⟨ga3, gc3, hf3, _⟩ := hO.form'
              have HL : Hid (Own lkE wB (w.heap.size + 3) v1 m.links) := hL
              have HR : Hid (Own rlE wB (w.heap.size + 3) v2 RS) := hRO
              have HO : Hid (Own stE wr (w.heap.size + 3) v m.starts) := hO
              subst hf1 hf2 hf3
              clear hL hRO hO hO3
              go_wp2
              have k7 := k6 (.int .i64 m.procs) (.int .i64 m.states) (.int .i64 m.loads) (.slice ga1 m.links.length gc1) (.slice ga2 RS.length gc2) (.slice ga3 m.starts.length gc3)
              refine bodyPost_ret (v := .agg #[.int .i64 m.procs, .int .i64 m.states, .int .i64 m.loads, .slice ga1 m.links.length gc1, .slice ga2 RS.length gc2, .slice ga3 m.starts.length gc3]) (by simp [results, Try.results15, go_sem, q0, q1, q2, q3, q4, q5]) rfl ⟨_, _, _, RS, rfl, ⟨?_, ?_, hmap, ?_⟩, ?_, ?_⟩
              · exact ((HL.out.keep hK (fun g hg e => by have := (HL.out.lt hg).1; omega)).keep k7 (fun g hg e => by have := (HL.out.lt hg).1; omega)).mono (by omega)
              · exact ((HR.out.keep hK (fun g hg e => by have := (HR.out.lt hg).1; omega)).keep k7 (fun g hg e => by have := (HR.out.lt hg).1; omega)).mono (by omega)
              · intro y hy
                have h1 := hEm3 y hy
                exact ((h1.keep hK (fun g hg e => by have := (h1.lt hg).1; omega)).keep k7 (fun g hg e => by have := (h1.lt hg).1; omega)).mono (by omega)
              · exact (HO.out.keep k7 (fun g hg e => by have := (HO.out.lt hg).1; omega)).mono (by omega)
              · exact hbw.trans (KeptF.below k7 hbw.size (fun i hi => by omega))

end Go.Proofs.Ytaieackeflmhgaa

namespace Go.Proofs.Ytaieackeflmhgaa
open Go.RowKit Go.Sort Go.Maps

def AF (nb : Nat) (V : NV) (i : Nat) : Prop := NF nb V i ∨ MF V.lv V.rv V.RS i
theorem NetAt.alt {w : World} {nb : Nat} {m : Mdl} {en : Int} {s : NS} {V : NV} (h : NetAt w nb m en s V) {i : Nat} (hi : AF nb V i) : V.lo ≤ i ∧ i < w.heap.size := by
  rcases hi with hi | hi
  · exact h.lt hi
  · rcases hi with hi | hi | ⟨x, hx, hi⟩
    · exact h.mo.links.lt hi
    · exact h.mo.rules.lt hi
    · exact (h.mo.ems x hx).lt hi

structure Twin (w wr : World) (lo hi nb nb2 : Nat) (m : Mdl) (en : Int) (k sb lb : Nat) (L : List Value) (s t : NS) (V V2 : NV) : Prop where
  n1 : NetAt wr nb m en s V
  n2 : NetAt wr nb2 m en t V2
  run : RunOn lo hi wr m en sb lb k L
  s1 : ∀ i, NF nb V i → hi ≤ i ∧ ¬ AF nb2 V2 i
  s2 : ∀ i, NF nb2 V2 i → hi ≤ i ∧ ¬ AF nb V i
  low : w.heap.size < hi
  bel : Below w.heap.size w wr

section
variable {w wr w2 : World} {lo hi nb nb2 : Nat} {m : Mdl} {en : Int} {k sb lb : Nat} {L : List Value} {s t s' t' : NS} {V V2 V' V2' : NV}
theorem Twin.swap (h : Twin w wr lo hi nb nb2 m en k sb lb L s t V V2) : Twin w wr lo hi nb2 nb m en k sb lb L t s V2 V := ⟨h.n2, h.n1, h.run, h.s2, h.s1, h.low, h.bel⟩
theorem Twin.grow (h : Twin w wr lo hi nb nb2 m en k sb lb L s t V V2) (hb : Below wr.heap.size wr w2) : Twin w w2 lo hi nb nb2 m en k sb lb L s t V V2 :=
  ⟨h.n1.grow (kept_of_below' hb), h.n2.grow (kept_of_below' hb), h.run.keep (kept_of_below' hb) (fun _ _ _ e => e), h.s1, h.s2, h.low, h.bel.trans (hb.mono h.bel.size)⟩
theorem Twin.one (h : Twin w wr lo hi nb nb2 m en k sb lb L s t V V2) (hg : NGo wr w2 nb m en s' V V') : Twin w w2 lo hi nb nb2 m en k sb lb L s' t V' V2 := by
  have hAF : ∀ i, AF nb V' i → AF nb V i ∨ wr.heap.size ≤ i := fun i hf => by
    rcases hf with hf | hf
    · rcases hg.foot i hf with h1 | h1
      · exact .inl (.inl h1)
      · exact .inr h1
    · rw [hg.mf.1, hg.mf.2.1, hg.mf.2.2] at hf
      exact .inl (.inr hf)
  refine ⟨hg.at_, h.n2.keep hg.kept (fun i h1 hf => (h.s1 i hf).2 (.inl h1)) (fun i h1 hf => (h.s1 i hf).2 (.inr h1)), h.run.keep hg.kept (fun i _ h2 hf => by have := (h.s1 i hf).1; omega), fun i hx => ?_, fun i hx => ⟨(h.s2 i hx).1, fun hf => ?_⟩, h.low, h.bel.trans (KeptF.below hg.kept h.bel.size (fun i hx => by have := (h.s1 i hx).1; have := h.low; omega))⟩
  · rcases hg.foot i hx with h1 | h1
    · exact h.s1 i h1
    · have hsz : hi ≤ wr.heap.size := by
        have h2 := (h.s1 nb (.inl rfl)).1
        have h3 := h.n1.blk.lt
        omega
      exact ⟨by omega, fun hf => by have := (h.n2.alt hf).2; omega⟩
  · rcases hAF i hf with h1 | h1
    · exact (h.s2 i hx).2 h1
    · have := (h.n2.lt hx).2; omega
theorem Twin.two (h : Twin w wr lo hi nb nb2 m en k sb lb L s t V V2) (hg : NGo wr w2 nb2 m en t' V2 V2') : Twin w w2 lo hi nb nb2 m en k sb lb L s t' V V2' := (h.swap.one hg).swap
theorem Twin.box (h : Twin w wr lo hi nb nb2 m en k sb lb L s t V V2) (hg : NGo wr w2 nb m en s' V V') {c : Array Value} {T : TypeId} (hb : Blk wr w.heap.size c T) : Blk w2 w.heap.size c T :=
  hb.keep hg.kept (fun hf => by have h1 := (h.s1 _ hf).1; have h2 := h.low; omega)
end

end Go.Proofs.Ytaieackeflmhgaa

