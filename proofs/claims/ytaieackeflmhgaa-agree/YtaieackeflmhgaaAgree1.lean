/-
  The program: Run.
  The program: Run, its answer in one form.
  The law Agree: true, whatever the model.
-/
import Derived.Test.YtaieackeflmhgaaSafe14
import Derived.Test.YtaieackeflmhgaaSafe13
import Derived.Test.YtaieackeflmhgaaSafe5
import Derived.Test.YtaieackeflmhgaaSafe15
namespace Go.Proofs.Ytaieackeflmhgaa
open Go.RowKit Go.Sort Go.Maps

theorem results_tmp4 {fn : Func} {t u v x : Tmp} (h : fn.results = #[.tmp t, .tmp u, .tmp v, .tmp x]) (tmps : Array Value) (P : Program) (w : World) :
    (results fn tmps).run P w = .ok (.tuple #[tmps.getD t undef, tmps.getD u undef, tmps.getD v undef, tmps.getD x undef]) w := by
  simp [results, h]

theorem fill_ints (S : List Int) (n i : Nat) (x : Int) (hi : S[i]? = some x) (hl : S.length = n) : (ints (S.take i ++ List.replicate (n - i) 0)).setIfInBounds i (.int .i64 x) = ints (S.take (i + 1) ++ List.replicate (n - (i + 1)) 0) := by
  have hlt := get_lt hi
  have e : n - i = (n - (i + 1)) + 1 := by omega
  have hlen : (S.take i).length = i := by simp; omega
  rw [ints_set, e, List.replicate_succ, List.set_append_right _ _ (by omega), hlen, Nat.sub_self, List.set_cons_zero, List.take_add_one, hi]
  simp
theorem fill_vals (L : List Value) (n : Nat) (z y : Value) (h : L.length < n) : (L ++ List.replicate (n - L.length) z).toArray.setIfInBounds L.length y = ((L ++ [y]) ++ List.replicate (n - (L.length + 1)) z).toArray := by
  have e : n - L.length = (n - (L.length + 1)) + 1 := by omega
  rw [e, List.replicate_succ, List.setIfInBounds_toArray, List.set_append_right _ _ (Nat.le_refl _), Nat.sub_self]
  simp
theorem info_ints : (Try.prog.info? 3).map (fun i => (i.zero, i.size, i.bytes)) = some (some (.int .i64 0), 1, 8) := by kernel_rfl
theorem info_dones : (Try.prog.info? 60).map (fun i => (i.zero, i.size, i.bytes)) = some (some (.slice none 0 0), 1, 24) := by kernel_rfl

theorem answer_zero {m : Mdl} {en : Int} (h : answer m en = (0, 0)) : valid m en = (0, 0) ∧ Few m en := by
  unfold answer at h
  split at h
  · rename_i hv
    refine ⟨hv, ?_⟩
    split at h
    · rename_i hf; exact fewB_iff.1 hf
    · cases h
  · rename_i hv
    exact absurd h hv
theorem answer_ne {m : Mdl} {en : Int} (h : answer m en ≠ (0, 0)) : (answer m en).1 ≠ 0 := by
  intro e
  apply h
  unfold answer at e ⊢
  split
  · rename_i hv
    rw [if_pos hv] at e
    split
    · rfl
    · rename_i hf; rw [if_neg hf] at e; cases e
  · rename_i hv
    rw [if_neg hv] at e
    exact absurd (valid_zero e) hv

/-- what Run answers, in memory -/
structure RunAt (w : World) (m : Mdl) (en : Int) (sb lb k : Nat) (L : List Value) : Prop where
  stop : nx en (atK m en k).wait = none
  st : Blk w sb (ints (atK m en k).states) 3
  ls : Blk w lb L.toArray 60
  len : L.length = np m
  rows : ∀ (p : Nat) (v : Value) (l : List Dn), L[p]? = some v → (atK m en k).done[p]? = some l → RowsAt 5 dnC w w.heap.size v l

theorem RunAt.keep {w w' : World} {m : Mdl} {en : Int} {sb lb k : Nat} {L : List Value} (h : RunAt w m en sb lb k L) (hb : Below w.heap.size w w') : RunAt w' m en sb lb k L :=
  ⟨h.stop, h.st.keep (kept_of_below' hb) (fun e => e), h.ls.keep (kept_of_below' hb) (fun e => e), h.len, fun p v l h1 h2 => ((h.rows p v l h1 h2).keep hb).mono hb.size⟩

/-- what Run answers, in memory, from lo on -/
structure RunIn (lo : Nat) (w : World) (m : Mdl) (en : Int) (sb lb k : Nat) (L : List Value) : Prop where
  stop : nx en (atK m en k).wait = none
  st : Blk w sb (ints (atK m en k).states) 3
  ls : Blk w lb L.toArray 60
  len : L.length = np m
  rows : ∀ (p : Nat) (v : Value) (l : List Dn), L[p]? = some v → (atK m en k).done[p]? = some l → RowsIn 5 dnC lo w v l
  lows : lo ≤ sb
  lowl : lo ≤ lb

theorem RunIn.keep {lo : Nat} {F : Nat → Prop} {w w' : World} {m : Mdl} {en : Int} {sb lb k : Nat} {L : List Value} (h : RunIn lo w m en sb lb k L) (hk : KeptF F w w') (hF : ∀ i, F i → i < lo) : RunIn lo w' m en sb lb k L :=
  ⟨h.stop, h.st.keep hk (fun e => by have := hF _ e; have := h.lows; omega), h.ls.keep hk (fun e => by have := hF _ e; have := h.lowl; omega), h.len, fun p v l h1 h2 => (h.rows p v l h1 h2).keep hk hF, h.lows, h.lowl⟩
theorem RunIn.at {lo : Nat} {w : World} {m : Mdl} {en : Int} {sb lb k : Nat} {L : List Value} (h : RunIn lo w m en sb lb k L) : RunAt w m en sb lb k L :=
  ⟨h.stop, h.st, h.ls, h.len, fun p v l h1 h2 => (h.rows p v l h1 h2).at⟩

set_option maxRecDepth 100000 in
set_option maxHeartbeats 8000000 in
theorem run_in (m : Mdl) (lv rv sv : Value) (R : List RuleV) (B : Nat) (en : Int) (w : World) (h : ModelAt w B lv rv sv m R) (hB : B ≤ w.heap.size) (hne : ∀ r ∈ m.rules, r.es.length ≤ 5864062014634) :
    Calls Try.prog 22 #[.agg #[.int .i64 m.procs, .int .i64 m.states, .int .i64 m.loads, lv, rv, sv], .int .i64 en] w fun e w' => Below w.heap.size w w' ∧
      ((answer m en ≠ (0, 0) ∧ e = .returned (.tuple #[.slice none 0 0, .slice none 0 0, .int .i64 (answer m en).1, .int .i64 (answer m en).2])) ∨
       (answer m en = (0, 0) ∧ ∃ sb lb k L, e = .returned (.tuple #[.slice (some ⟨sb, 0, none⟩) (np m) (np m), .slice (some ⟨lb, 0, none⟩) (np m) (np m), .int .i64 0, .int .i64 0]) ∧ RunIn w.heap.size w' m en sb lb k L)) := by
  obtain ⟨W0, hW0⟩ : ∃ W0, W0 = w.alloc (.cells #[.int .i64 m.procs, .int .i64 m.states, .int .i64 m.loads, lv, rv, sv] 31) := ⟨_, rfl⟩
  have HW0 : Hid (W0 = w.alloc (.cells #[.int .i64 m.procs, .int .i64 m.states, .int .i64 m.loads, lv, rv, sv] 31)) := hW0
  have hB0 : Below w.heap.size w W0 := by rw [hW0]; exact (Below.refl _ _).alloc (Nat.le_refl _) _
  have hmb : Blk W0 w.heap.size #[.int .i64 m.procs, .int .i64 m.states, .int .i64 m.loads, lv, rv, sv] 31 := by rw [hW0]; exact heap_alloc_new w _
  have k0 := Gr.cells (v := .int .i64 m.procs) (hmb.cell 0)
  have k1 := Gr.cells (v := .int .i64 m.states) (hmb.cell 1)
  have k2 := Gr.cells (v := .int .i64 m.loads) (hmb.cell 2)
  have k3 := Gr.cells (v := lv) (hmb.cell 3)
  have k4 := Gr.cells (v := rv) (hmb.cell 4)
  have k5 := Gr.cells (v := sv) (hmb.cell 5)
  have hBW : B ≤ W0.heap.size := Nat.le_trans hB hB0.size
  have hM0 := h.keep (hB0.mono hB)
  have hg0 := Gr.refl W0
  clear hW0
  have hck := check_any m lv rv sv R B en W0 hM0 hBW hne
  go_enter Try.func22, Try.ntmps22
  go_upto_region 1 with fail
  rw [← HW0.out]
  clear HW0
  go_wp2_with fail
  refine hck.mono ?_
  rintro e1 w1 ⟨rfl, g1⟩
  clear hck
  have hg1 : Gr W0 w1 := g1
  by_cases ha : answer m en = (0, 0)
  · have Ha : Hid (answer m en = (0, 0)) := ha
    rw [ha]
    clear ha
    obtain ⟨hv, hFew⟩ := answer_zero Ha.out
    obtain ⟨hRt, hen0, hen⟩ := right_of_valid hv
    have hp1 := hRt.lim.p1
    have hp2 := hRt.lim.p2
    have hnp6 : np m ≤ 6 := by unfold np; omega
    clear hv
    have hev := events_any w1 B lv rv sv m R en (hM0.keep (hg1.mono hBW)) (Nat.le_trans hBW hg1.size) hRt hen
    go_wp2_with fail
    refine hev.mono ?_
    rintro e2 w2 ⟨k, pb, rfl, g2, hcase⟩
    clear hev k0 k1 k2 k3 k4 k5
    have hg2 : Gr W0 w2 := Gr.trans hg1 g2
    rcases hcase with ⟨hk, -, hnx, ps, hP, hS⟩ | ⟨-, hF⟩
    rotate_left
    · exact absurd hFew hF
    have hI := atK_inv hRt hen k
    have hall : (atK m en k).all ≤ k := atK_all m en k
    have hdl : ∀ p ∈ ps, p.dn.length ≤ 5000 := fun p hp => by
      obtain ⟨i, hi⟩ := List.getElem?_of_mem hp
      have := hI.dl i p.dn (hS.dn i p hi)
      omega
    obtain ⟨S, hSe⟩ : ∃ S, S = (atK m en k).states := ⟨_, rfl⟩
    have HS : Hid (S = (atK m en k).states) := hSe
    have hSl : S.length = np m := by rw [hSe]; exact hI.ls
    have HSl : Hid (S.length = np m) := hSl
    have Hnx : Hid (nx en (atK m en k).wait = none) := hnx
    have hbw2 : Below w.heap.size w w2 := Gr.below hg2 hB0
    have Hlen : Hid (ps.length = np m) := hS.len
    clear hSe hSl hnx hall
    obtain ⟨n, hn⟩ : ∃ n, n = np m := ⟨_, rfl⟩
    have Hn : Hid (n = np m) := hn
    rw [← hn] at hnp6
    have hmk1 := run_make_row' (P := Try.prog) 55 3 (.int .i64 0) 8 Try.underlying55 info_ints rfl .i64 .i64 n (by omega) (by omega)
    have hmk2 := run_make_row' (P := Try.prog) 56 60 (.slice none 0 0) 24 Try.underlying56 info_dones rfl .i64 .i64 n (by omega) (by omega)
    have hst0 : Blk ((w2.alloc (.cells (madeCells #[.int .i64 0] n) 3)).alloc (.cells (madeCells #[.slice none 0 0] n) 60)) w2.heap.size (ints (S.take 0 ++ List.replicate (n - 0) 0)) 3 := by
      rw [List.take_zero, List.nil_append, Nat.sub_zero, ← made_ints]
      exact Blk.alloc (heap_alloc_new w2 _) _
    have hls0 : Blk ((w2.alloc (.cells (madeCells #[.int .i64 0] n) 3)).alloc (.cells (madeCells #[.slice none 0 0] n) 60)) (w2.heap.size + 1) (([] : List Value) ++ List.replicate (n - 0) (Value.slice none 0 0)).toArray 60 := by
      rw [List.nil_append, Nat.sub_zero, ← made_nils]
      exact blk_newP (by simp)
    have hb0 : Below w2.heap.size w2 ((w2.alloc (.cells (madeCells #[.int .i64 0] n) 3)).alloc (.cells (madeCells #[.slice none 0 0] n) 60)) := ((Below.refl _ _).alloc (Nat.le_refl _) _).alloc (by simp) _
    rw [← hn]
    clear hn
    go_wp2
    clear hmk1 hmk2
    go_loopw [40] (fun s40 wr => ∃ (i : Nat) (L : List Value), s40 = .int .i64 i ∧ i ≤ n ∧ L.length = i ∧ Blk wr w2.heap.size (ints (S.take i ++ List.replicate (n - i) 0)) 3 ∧ Blk wr (w2.heap.size + 1) (L ++ List.replicate (n - i) (Value.slice none 0 0)).toArray 60 ∧ (∀ (j : Nat) (v : Value) (p : Pr), L[j]? = some v → ps[j]? = some p → RowsIn 5 dnC (w2.heap.size + 2) wr v p.dn) ∧ Below w2.heap.size w2 wr) (fun s40 _ => n - (intOf s40).toNat)
    case atStart => exact ⟨0, [], rfl, Nat.zero_le _, rfl, hst0, hls0, fun j v p hj => by simp at hj, hb0⟩
    case round =>
      clear hst0 hls0 hb0
      obtain ⟨i, L, rfl, hi, hL, hst, hls, hrows, hbr⟩ := hrel
      have HL : Hid (L.length = i) := hL
      clear hL
      by_cases hlt : i < n
      · obtain ⟨p, hp⟩ := get_of_lt (d := ps) (k := i) (by rw [Hlen.out, ← Hn.out]; exact hlt)
        obtain ⟨x, hx⟩ := get_of_lt (d := S) (k := i) (by rw [HSl.out, ← Hn.out]; exact hlt)
        have hxs : x = p.st := by
          have h1 := hS.st i p hp
          rw [← HS.out, hx] at h1
          cases h1; rfl
        subst hxs
        have hPr := hP.grow (kept_of_below' hbr)
        have cp := hPr.cell hp
        have hPd := (hPr.each p (List.mem_of_getElem? hp)).keep (KeptF.drew (KeptF.refl (fun _ => False) wr)) (fun _ _ e => e)
        have htold := told_any wr.drew _ p hPd (hdl p (List.mem_of_getElem? hp))
        have c6 := hPd.cells.2.1
        have hPlt : p.qb < w2.heap.size := (hP.each p (List.mem_of_getElem? hp)).core.blk.lt
        have hlq : p.qb < wr.heap.size := hPd.core.blk.lt
        have hsz : w2.heap.size + 2 ≤ wr.heap.size := hls.lt
        have hpl : pb < wr.heap.size := hPr.arr.lt
        have Hp : Hid (ps[i]? = some p) := hp
        have Hx : Hid (S[i]? = some p.st) := hx
        have hils : (i : Int) < n := by omega
        have g0 : (ints (S.take i ++ List.replicate (n - i) 0))[i]? = some (.int .i64 0) := ints_get (by
          have hlen : (S.take i).length = i := by rw [List.length_take, HSl.out, ← Hn.out]; omega
          rw [List.getElem?_append_right (by omega), hlen, Nat.sub_self, List.getElem?_replicate, if_pos (by omega)])
        have g1' : (L ++ List.replicate (n - i) (Value.slice none 0 0)).toArray[i]? = some (Value.slice none 0 0) := by
          rw [List.getElem?_toArray, List.getElem?_append_right (by rw [HL.out]; exact Nat.le_refl _), HL.out, Nat.sub_self, List.getElem?_replicate, if_pos (by omega)]
        clear hp hx
        go_wp2
        go_region_held3 (fun W => W.cell? ⟨p.qb, 9, none⟩ = some (.int .i64 p.st)) (first | assumption | (rw [World.cell?_setCell_other _ _ _ _ (fun e => by have e := congrArg Addr.block e; simp only at e; omega)]; assumption)) ((refine htold.mono ?_; rintro e3 w3 ⟨ao, cap, rfl, hb3, hr3⟩; have hst3 := hst.drew.keep (kept_of_below' hb3) (fun e => e); have hls3 := hls.drew.keep (kept_of_below' hb3) (fun e => e); have d6 := (hb3.cell (p := ⟨p.qb, 9, none⟩) hlq).trans c6; have f0 := hst3.frozen i; have f1 := hls3.frozen i; have e0 := (hst3.cell i).trans g0; have e1 := (hls3.cell i).trans g1'))
        all_goals
          go_wp2
          go_roundw
          case rel =>
            have hk1 : KeptF (fun j => j = w2.heap.size ∨ j = w2.heap.size + 1) w3 ((w3.setCell ⟨w2.heap.size, i, none⟩ (.int .i64 p.st)).setCell ⟨w2.heap.size + 1, i, none⟩ (.slice ao p.dn.length cap)) := ((KeptF.refl _ w3).setCell (p := ⟨w2.heap.size, i, none⟩) (.inl (.inl rfl)) _).setCell (p := ⟨w2.heap.size + 1, i, none⟩) (.inl (.inr rfl)) _
            have hst4 := (hst3.set i (.int .i64 p.st)).set_other (a := ⟨w2.heap.size + 1, i, none⟩) (show w2.heap.size ≠ w2.heap.size + 1 by omega) (.slice ao p.dn.length cap)
            have hls4 := (hls3.set_other (a := ⟨w2.heap.size, i, none⟩) (show w2.heap.size + 1 ≠ w2.heap.size by omega) (.int .i64 p.st)).set i (.slice ao p.dn.length cap)
            rw [fill_ints S n i p.st Hx.out (by rw [HSl.out, Hn.out])] at hst4
            have hfv := fill_vals L n (Value.slice none 0 0) (.slice ao p.dn.length cap) (by rw [HL.out]; exact hlt)
            rw [HL.out] at hfv
            rw [hfv] at hls4
            refine ⟨i + 1, L ++ [.slice ao p.dn.length cap], by go_num, hlt, by rw [List.length_append, HL.out]; rfl, hst4, hls4, fun j v q hj hq => ?_, ?_⟩
            · have hlj := get_lt hj
              rw [List.length_append, List.length_singleton, HL.out] at hlj
              by_cases hji : j < i
              · rw [List.getElem?_append_left (by rw [HL.out]; exact hji)] at hj
                exact (((hrows j v q hj hq).keep (KeptF.drew (KeptF.refl (fun _ => False) wr)) (fun _ e => e.elim)).keep (kept_of_below' hb3) (fun _ e => e.elim)).keep hk1 (fun k hk => by omega)
              · have e : j = i := by omega
                rw [e] at hj hq
                rw [List.getElem?_append_right (by rw [HL.out]; exact Nat.le_refl _), HL.out, Nat.sub_self] at hj
                simp only [List.getElem?_cons_zero, Option.some.injEq] at hj
                rw [Hp.out] at hq
                cases hq
                subst hj
                exact (hr3.mono hsz).keep hk1 (fun k hk => by omega)
            · refine hbr.trans ((Below.trans (KeptF.below (F := fun _ => False) (KeptF.drew (KeptF.refl _ wr)) (by omega) (fun _ e => e.elim)) (hb3.mono (by show w2.heap.size ≤ wr.heap.size; omega))).trans (KeptF.below hk1 (by have := hst3.lt; omega) (fun k hk => by omega)))
          case measure => simp [intOf]; omega
      · have hie : i = n := by omega
        subst hie
        go_wp2
        (try simp only [Exit.inBlock, Exit.then])
        refine bodyPost_ret (results_tmp4 rfl _ _ _) rfl ?_
        refine ⟨hbw2.trans (hbr.mono hbw2.size), .inr ⟨Ha.out, w2.heap.size, w2.heap.size + 1, k, L, by rw [← Hn.out]; rfl, ?_⟩⟩
        rw [Nat.sub_self] at hst hls
        rw [List.replicate_zero, List.append_nil] at hst hls
        rw [List.take_of_length_le (by rw [HSl.out, Hn.out]; exact Nat.le_refl _), HS.out] at hst
        refine ⟨Hnx.out, hst, hls, by rw [HL.out, Hn.out], fun j v l h1 h2 => ?_, hbw2.size, Nat.le_succ_of_le hbw2.size⟩
        obtain ⟨p, hp⟩ := get_of_lt (d := ps) (k := j) (by rw [Hlen.out, ← Hn.out, ← HL.out]; exact get_lt h1)
        have h3 := hS.dn j p hp
        rw [h2] at h3
        cases h3
        exact (hrows j v p h1 hp).mono (Nat.le_trans hbw2.size (Nat.le_add_right _ _))
  · have Ha : Hid (answer m en ≠ (0, 0)) := ha
    have h1 := answer_ne ha
    clear ha
    go_wp2
    (try simp only [Exit.inBlock, Exit.then])
    refine bodyPost_ret (results_tmp4 rfl _ _ _) rfl ?_
    exact ⟨Gr.below hg1 hB0, .inl ⟨Ha.out, rfl⟩⟩

theorem run_any (m : Mdl) (lv rv sv : Value) (R : List RuleV) (B : Nat) (en : Int) (w : World) (h : ModelAt w B lv rv sv m R) (hB : B ≤ w.heap.size) (hne : ∀ r ∈ m.rules, r.es.length ≤ 5864062014634) :
    Calls Try.prog 22 #[.agg #[.int .i64 m.procs, .int .i64 m.states, .int .i64 m.loads, lv, rv, sv], .int .i64 en] w fun e w' => Below w.heap.size w w' ∧
      ((answer m en ≠ (0, 0) ∧ e = .returned (.tuple #[.slice none 0 0, .slice none 0 0, .int .i64 (answer m en).1, .int .i64 (answer m en).2])) ∨
       (answer m en = (0, 0) ∧ ∃ sb lb k L, e = .returned (.tuple #[.slice (some ⟨sb, 0, none⟩) (np m) (np m), .slice (some ⟨lb, 0, none⟩) (np m) (np m), .int .i64 0, .int .i64 0]) ∧ RunAt w' m en sb lb k L)) := by
  refine (run_in m lv rv sv R B en w h hB hne).mono ?_
  rintro e w' ⟨g, hc | ⟨ha, sb, lb, k, L, he, hR⟩⟩
  · exact ⟨g, .inl hc⟩
  · exact ⟨g, .inr ⟨ha, sb, lb, k, L, he, hR.at⟩⟩

end Go.Proofs.Ytaieackeflmhgaa

namespace Go.Proofs.Ytaieackeflmhgaa
open Go.RowKit Go.Sort Go.Maps

theorem eql_nil {P : Program} {t e : TypeId} (ht : P.underlying t = some (.slice e)) (w : World) : (binOp .eql t (.slice none 0 0) (.slice none 0 0)).run P w = .ok (.bool true) w := by
  have h : ∀ d : Nat, (Op.equalIn (d + 1) t (.slice none 0 0) (.slice none 0 0)).run P w = .ok true w := fun d => by
    simp [Op.equalIn, run_underlying ht]
  simp only [binOp]
  simp [Op.equal, Op.maxDepth, h 9999]

theorem run_any2 (m : Mdl) (lv rv sv : Value) (R : List RuleV) (B : Nat) (en : Int) (w : World) (h : ModelAt w B lv rv sv m R) (hB : B ≤ w.heap.size) (hne : ∀ r ∈ m.rules, r.es.length ≤ 5864062014634) :
    Calls Try.prog 22 #[.agg #[.int .i64 m.procs, .int .i64 m.states, .int .i64 m.loads, lv, rv, sv], .int .i64 en] w fun e w' => Below w.heap.size w w' ∧ ∃ s l : Value, e = .returned (.tuple #[s, l, .int .i64 (answer m en).1, .int .i64 (answer m en).2]) ∧
      (answer m en ≠ (0, 0) → s = .slice none 0 0 ∧ l = .slice none 0 0) ∧
      (answer m en = (0, 0) → ∃ sb lb k L, s = .slice (some ⟨sb, 0, none⟩) (np m) (np m) ∧ l = .slice (some ⟨lb, 0, none⟩) (np m) (np m) ∧ RunAt w' m en sb lb k L) := by
  refine (run_any m lv rv sv R B en w h hB hne).mono ?_
  rintro e w' ⟨g, ⟨ha, rfl⟩ | ⟨ha, sb, lb, k, L, rfl, hR⟩⟩
  · exact ⟨g, _, _, rfl, fun _ => ⟨rfl, rfl⟩, fun e => absurd e ha⟩
  · exact ⟨g, _, _, by rw [ha], fun e => absurd ha e, fun _ => ⟨sb, lb, k, L, rfl, rfl, hR⟩⟩

theorem run_in2 (m : Mdl) (lv rv sv : Value) (R : List RuleV) (B : Nat) (en : Int) (w : World) (h : ModelAt w B lv rv sv m R) (hB : B ≤ w.heap.size) (hne : ∀ r ∈ m.rules, r.es.length ≤ 5864062014634) :
    Calls Try.prog 22 #[.agg #[.int .i64 m.procs, .int .i64 m.states, .int .i64 m.loads, lv, rv, sv], .int .i64 en] w fun e w' => Below w.heap.size w w' ∧ ∃ s l : Value, e = .returned (.tuple #[s, l, .int .i64 (answer m en).1, .int .i64 (answer m en).2]) ∧
      (answer m en ≠ (0, 0) → s = .slice none 0 0 ∧ l = .slice none 0 0) ∧
      (answer m en = (0, 0) → ∃ sb lb k L, s = .slice (some ⟨sb, 0, none⟩) (np m) (np m) ∧ l = .slice (some ⟨lb, 0, none⟩) (np m) (np m) ∧ RunIn w.heap.size w' m en sb lb k L) := by
  refine (run_in m lv rv sv R B en w h hB hne).mono ?_
  rintro e w' ⟨g, ⟨ha, rfl⟩ | ⟨ha, sb, lb, k, L, rfl, hR⟩⟩
  · exact ⟨g, _, _, rfl, fun _ => ⟨rfl, rfl⟩, fun e => absurd e ha⟩
  · exact ⟨g, _, _, by rw [ha], fun e => absurd ha e, fun _ => ⟨sb, lb, k, L, rfl, rfl, hR⟩⟩

end Go.Proofs.Ytaieackeflmhgaa

namespace Go.Proofs.Ytaieackeflmhgaa
open Go.RowKit Go.Sort Go.Maps

set_option maxRecDepth 100000 in
set_option maxHeartbeats 8000000 in
theorem agree_any (w : World) (m : Mdl) (lv rv sv : Value) (R : List RuleV) (en : Int) (h : ModelAt w w.heap.size lv rv sv m R)
    (b1 : m.links.length * 24 ≤ 140737488351232) (b2 : m.rules.length * 56 ≤ 140737488351232) (b3 : m.starts.length * 24 ≤ 140737488351232) (b4 : ∀ r ∈ m.rules, r.es.length * 24 ≤ 140737488351232) :
    Calls Try.prog 13 #[.agg #[.int .i64 m.procs, .int .i64 m.states, .int .i64 m.loads, lv, rv, sv], .int .i64 en] w fun e w' => e = .returned (.bool true) ∧ Below w.heap.size w w' := by
  have hne : ∀ r ∈ m.rules, r.es.length ≤ 5864062014634 := fun r hr => by have := b4 r hr; omega
  obtain ⟨W0, hW0⟩ : ∃ W0, W0 = w.alloc (.cells #[.int .i64 m.procs, .int .i64 m.states, .int .i64 m.loads, lv, rv, sv] 26) := ⟨_, rfl⟩
  have HW0 : Hid (W0 = w.alloc (.cells #[.int .i64 m.procs, .int .i64 m.states, .int .i64 m.loads, lv, rv, sv] 26)) := hW0
  have hB0 : Below w.heap.size w W0 := by rw [hW0]; exact (Below.refl _ _).alloc (Nat.le_refl _) _
  have hmb : Blk W0 w.heap.size #[.int .i64 m.procs, .int .i64 m.states, .int .i64 m.loads, lv, rv, sv] 26 := by rw [hW0]; exact heap_alloc_new w _
  have hmade := made_any m lv rv sv R w.heap.size W0 (h.keep hB0) hB0.size b1 b2 b3 b4
  clear hW0
  have k0 := Gr.cells (v := .int .i64 m.procs) (hmb.cell 0)
  have k1 := Gr.cells (v := .int .i64 m.states) (hmb.cell 1)
  have k2 := Gr.cells (v := .int .i64 m.loads) (hmb.cell 2)
  have k3 := Gr.cells (v := lv) (hmb.cell 3)
  have k4 := Gr.cells (v := rv) (hmb.cell 4)
  have k5 := Gr.cells (v := sv) (hmb.cell 5)
  have hg0 := Gr.refl W0
  have hlm := hmb.lt
  go_enter Try.func13, Try.ntmps13
  go_upto_region 1 with fail
  rw [← HW0.out]
  clear HW0
  go_wp2_with fail
  refine hmade.mono ?_
  rintro e1 w1 ⟨lv', rv', sv', R', rfl, hM', g1⟩
  clear hmade
  obtain ⟨a1, c1, hf1, _⟩ := RowsAt.form hM'.links
  obtain ⟨a2, c2, hf2, _⟩ := RowsAt.form hM'.rules.1
  obtain ⟨a3, c3, hf3, _⟩ := RowsAt.form hM'.starts
  subst hf1 hf2 hf3
  obtain ⟨WA, hWA⟩ : ∃ WA, WA = w1.alloc (.cells #[.int .i64 m.procs, .int .i64 m.states, .int .i64 m.loads, (.slice a1 m.links.length c1), (.slice a2 R'.length c2), (.slice a3 m.starts.length c3)] 31) := ⟨_, rfl⟩
  have HWA : Hid (WA = w1.alloc (.cells #[.int .i64 m.procs, .int .i64 m.states, .int .i64 m.loads, (.slice a1 m.links.length c1), (.slice a2 R'.length c2), (.slice a3 m.starts.length c3)] 31)) := hWA
  have hg1 : Gr W0 WA := by rw [hWA]; exact Gr.alloc (W0 := W0) g1 _
  have hbA : Below w1.heap.size w1 WA := by rw [hWA]; exact (Below.refl _ _).alloc (Nat.le_refl _) _
  have hkb : Blk WA w1.heap.size #[.int .i64 m.procs, .int .i64 m.states, .int .i64 m.loads, (.slice a1 m.links.length c1), (.slice a2 R'.length c2), (.slice a3 m.starts.length c3)] 31 := by rw [hWA]; exact heap_alloc_new w1 _
  clear hWA
  have hMA := hM'.keep hbA
  have j0 := Gr.cells (v := .int .i64 m.procs) (hkb.cell 0)
  have j1 := Gr.cells (v := .int .i64 m.states) (hkb.cell 1)
  have j2 := Gr.cells (v := .int .i64 m.loads) (hkb.cell 2)
  have j3 := Gr.cells (v := .slice a1 m.links.length c1) (hkb.cell 3)
  have j4 := Gr.cells (v := .slice a2 R'.length c2) (hkb.cell 4)
  have j5 := Gr.cells (v := .slice a3 m.starts.length c3) (hkb.cell 5)
  have hgA := Gr.refl WA
  have hlk := hkb.lt
  have hck := check_any m (.slice a1 m.links.length c1) (.slice a2 R'.length c2) (.slice a3 m.starts.length c3) R' w1.heap.size en WA hMA hbA.size hne
  go_upto_region 2 with fail
  rw [← HWA.out]
  clear HWA
  go_wp2_with fail
  refine hck.mono ?_
  rintro e2 w2 ⟨rfl, g2⟩
  clear hck
  have hgA2 : Gr WA w2 := g2
  have hg2 : Gr W0 w2 := Gr.trans hg1 g2
  have hr1 := run_any2 m (.slice a1 m.links.length c1) (.slice a2 R'.length c2) (.slice a3 m.starts.length c3) R' w1.heap.size en w2 (hMA.keep (hgA2.mono hbA.size)) (Nat.le_trans hbA.size hgA2.size) hne
  go_wp2_with fail
  refine hr1.mono ?_
  rintro e3 w3 ⟨g3, s1, l1, rfl, hd0, hd1⟩
  clear hr1
  have hgA3 : Gr WA w3 := Gr.trans hgA2 g3
  have hg3 : Gr W0 w3 := Gr.trans hg2 g3
  have ho := open_any w3 w1.heap.size (.slice a1 m.links.length c1) (.slice a2 R'.length c2) (.slice a3 m.starts.length c3) m R' en (hMA.keep (hgA3.mono hbA.size)) (Nat.le_trans hbA.size hgA3.size) hne
  go_wp2_with fail
  refine ho.mono ?_
  rintro e4 w4 ⟨g4, hcase⟩
  clear ho j0 j1 j2 j3 j4 j5
  have hg4 : Gr W0 w4 := Gr.trans hg3 g4
  have hbw4 : Below w.heap.size w w4 := Gr.below hg4 hB0
  have hrf := refCheck_any m lv rv sv R w.heap.size en w4 (h.keep hbw4) hbw4.size hne
  rcases hcase with ⟨ha, rfl⟩ | ⟨ha, nb, V, rfl, -, -⟩
  · obtain ⟨rfl, rfl⟩ := hd0 ha
    clear hd0 hd1
    have h1 := answer_no ha
    clear ha
    generalize answer m en = a at *
    go_wp2_with fail
    refine hrf.mono ?_
    rintro e5 w5 ⟨pv, rfl, g5, -⟩
    clear hrf k0 k1 k2 k3 k4 k5
    have hbw5 : Below w.heap.size w w5 := hbw4.trans (g5.mono hbw4.size)
    have hnum := num_any a.1 w5
    have n1 := fun W => eql_slice (P := Try.prog) Try.underlying55 W none 0 0
    have n2 := fun W => eql_slice (P := Try.prog) Try.underlying56 W none 0 0
    go_wp2_with (go_at_call 18; refine hnum.mono ?_; rintro e6 w6 ⟨rfl, hw6⟩; rw [hw6]; clear hw6)
    go_ret
    refine ⟨ret_bool ?_, hbw5⟩
    simp [h1]
  · obtain ⟨sb, lb, k, L, rfl, rfl, -⟩ := hd1 ha
    rw [ha] at hrf ⊢
    clear hd0 hd1 ha
    go_wp2_with fail
    refine hrf.mono ?_
    rintro e5 w5 ⟨pv, rfl, g5, -⟩
    clear hrf k0 k1 k2 k3 k4 k5
    have hbw5 : Below w.heap.size w w5 := hbw4.trans (g5.mono hbw4.size)
    have hnum := num_any 0 w5
    have n1 := fun W => eql_slice (P := Try.prog) Try.underlying55 W (some ⟨sb, 0, none⟩) (np m) (np m)
    have n2 := fun W => eql_slice (P := Try.prog) Try.underlying56 W (some ⟨lb, 0, none⟩) (np m) (np m)
    go_wp2_with (go_at_call 18; refine hnum.mono ?_; rintro e6 w6 ⟨rfl, hw6⟩; rw [hw6]; clear hw6)
    go_ret
    refine ⟨ret_bool ?_, hbw5⟩
    simp

end Go.Proofs.Ytaieackeflmhgaa

