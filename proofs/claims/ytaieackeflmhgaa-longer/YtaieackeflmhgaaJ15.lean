/-
  The law's made: a model, copied.
  The law Checks: true, whatever the model.
  The law Longer: true, whatever the model and the ends.
-/
import Derived.Test.YtaieackeflmhgaaJ07
import Derived.Deep.Cut
import Derived.Deep.CutRange
import Derived.Deep.DeepCutAuto
import Derived.Test.YtaieackeflmhgaaJ14
import Derived.Test.YtaieackeflmhgaaJ10
namespace Go.Proofs.Ytaieackeflmhgaa
open Go.RowKit Go.Sort Go.Maps

theorem three_one {a b c : Int} : ∀ u ∈ [Value.int .i64 a, .int .i64 b, .int .i64 c], u.oneCell' = true := by
  intro u hu
  simp only [List.mem_cons, List.not_mem_nil, or_false] at hu
  rcases hu with rfl | rfl | rfl <;> rfl
def lkE : Enc MLink := ⟨3, 94, linkC, fun _ => rfl, by omega, fun _ => three_one⟩
def etE : Enc MEmit := ⟨3, 101, emitC, fun _ => rfl, by omega, fun _ => three_one⟩
def stE : Enc MStart := ⟨3, 73, startC, fun _ => rfl, by omega, fun _ => three_one⟩
structure RuleS where
  r : MRule
  ao : Option Addr
  len : Nat
  cap : Nat
def RuleS.ev (x : RuleS) : Value := .slice x.ao x.len x.cap
def RuleS.v (x : RuleS) : RuleV := ⟨x.r, x.ev⟩
def rlE : Enc RuleS := ⟨5, 103, fun x => ruleC x.v, fun _ => rfl, by omega, fun x u hu => by
  simp only [ruleC, RuleS.v, RuleS.ev, List.mem_cons, List.not_mem_nil, or_false] at hu
  rcases hu with rfl | rfl | rfl | rfl | rfl <;> rfl⟩
theorem info_lk : (Try.prog.info? 94).map (fun i => (i.zero, i.size, i.bytes)) = some (some (.agg #[.int .i64 0, .int .i64 0, .int .i64 0]), 3, 24) := by kernel_rfl
theorem info_et : (Try.prog.info? 101).map (fun i => (i.zero, i.size, i.bytes)) = some (some (.agg #[.int .i64 0, .int .i64 0, .int .i64 0]), 3, 24) := by kernel_rfl
theorem info_st : (Try.prog.info? 73).map (fun i => (i.zero, i.size, i.bytes)) = some (some (.agg #[.int .i64 0, .int .i64 0, .int .i64 0]), 3, 24) := by kernel_rfl
theorem info_rl : (Try.prog.info? 103).map (fun i => (i.zero, i.size, i.bytes)) = some (some (.agg #[.int .i64 0, .int .i64 0, .int .i64 0, .int .i64 0, .slice none 0 0]), 5, 56) := by kernel_rfl

theorem Own.rows {α : Type} {E : Enc α} {w : World} {B : Nat} {v : Value} {l : List α} (h : Own E w B v l) : RowsAt E.sz E.enc w w.heap.size v l := by
  rcases h.form with ⟨h1, h2⟩ | ⟨g, cap, h1, h2⟩
  · subst h2
    exact ⟨none, 0, h1, Nat.le_refl _, fun h => absurd rfl h⟩
  · subst h1
    refine ⟨_, _, rfl, h2, fun _ => ⟨g, 0, rfl, (h.lt rfl).2, fun j x k u hx hu => ?_⟩⟩
    rw [Nat.zero_add]
    exact h.cell hx hu

theorem RowsAt.map {α β : Type} {sz : Nat} {en : β → List Value} {f : α → β} {w : World} {B : Nat} {v : Value} {l : List α} (h : RowsAt sz (fun x => en (f x)) w B v l) : RowsAt sz en w B v (l.map f) := by
  obtain ⟨ao, cap, h1, h2, h3⟩ := h
  refine ⟨ao, cap, by rw [List.length_map]; exact h1, by rw [List.length_map]; exact h2, fun hne => ?_⟩
  obtain ⟨b, off, h4, h5, h6⟩ := h3 (fun e => hne (by rw [e]; rfl))
  refine ⟨b, off, h4, h5, fun j x k u hx hu => ?_⟩
  rw [List.getElem?_map] at hx
  obtain ⟨y, hy, rfl⟩ := Option.map_eq_some_iff.1 hx
  exact h6 j y k u hy hu

theorem take_snoc {α : Type} {l : List α} {k : Nat} {x : α} (h : l[k]? = some x) : l.take (k + 1) = l.take k ++ [x] := by
  rw [List.take_add_one, h]; rfl
theorem take_len {α : Type} {l : List α} {k : Nat} (h : k < l.length) : (l.take k).length = k := by rw [List.length_take]; omega

theorem blk_newQ {W : World} {b : Nat} {c : Array Value} {T : TypeId} (h : b = W.heap.size) : Blk (W.alloc (.cells c T)) b c T := by
  subst h; exact heap_alloc_new W _

set_option maxRecDepth 100000 in
set_option maxHeartbeats 8000000 in
theorem made_any (m : Mdl) (lv rv sv : Value) (R : List RuleV) (B : Nat) (w : World) (h : ModelAt w B lv rv sv m R) (hB : B ≤ w.heap.size)
    (b1 : m.links.length * 24 ≤ 140737488351232) (b2 : m.rules.length * 56 ≤ 140737488351232) (b3 : m.starts.length * 24 ≤ 140737488351232) (b4 : ∀ r ∈ m.rules, r.es.length * 24 ≤ 140737488351232) :
    Calls Try.prog 15 #[.agg #[.int .i64 m.procs, .int .i64 m.states, .int .i64 m.loads, lv, rv, sv]] w fun e w' => ∃ (lv' rv' sv' : Value) (R' : List RuleV), e = .returned (.agg #[.int .i64 m.procs, .int .i64 m.states, .int .i64 m.loads, lv', rv', sv']) ∧ ModelAt w' w'.heap.size lv' rv' sv' m R' ∧ Below w.heap.size w w' := by
  obtain ⟨ao, cap, hlv, hcap⟩ := RowsAt.form h.links
  subst hlv
  obtain ⟨aor, capr, hrv, hcapr⟩ := RowsAt.form h.rules.1
  rw [h.rlen] at hrv hcapr
  subst hrv
  obtain ⟨aos, caps, hsv, hcaps⟩ := RowsAt.form h.starts
  subst hsv
  obtain ⟨il, hil, hil0, hil1, hil2⟩ := info_parts info_lk
  obtain ⟨ie, hie, hie0, hie1, hie2⟩ := info_parts info_et
  obtain ⟨ist, hist, hist0, hist1, hist2⟩ := info_parts info_st
  obtain ⟨ir, hir, hir0, hir1, hir2⟩ := info_parts info_rl
  obtain ⟨W1, hW1⟩ : ∃ W1, W1 = ((w.alloc (.cells #[.int .i64 m.procs, .int .i64 m.states, .int .i64 m.loads, .slice ao m.links.length cap, .slice aor m.rules.length capr, .slice aos m.starts.length caps] 26)).alloc (.cells #[.int .i64 0, .int .i64 0, .int .i64 0, .slice none 0 0, .slice none 0 0, .slice none 0 0] 31)).alloc (.cells #[.int .i64 m.procs, .int .i64 m.states, .int .i64 m.loads, .slice none 0 0, .slice none 0 0, .slice none 0 0] 31) := ⟨_, rfl⟩
  have HW1 : Hid (W1 = ((w.alloc (.cells #[.int .i64 m.procs, .int .i64 m.states, .int .i64 m.loads, .slice ao m.links.length cap, .slice aor m.rules.length capr, .slice aos m.starts.length caps] 26)).alloc (.cells #[.int .i64 0, .int .i64 0, .int .i64 0, .slice none 0 0, .slice none 0 0, .slice none 0 0] 31)).alloc (.cells #[.int .i64 m.procs, .int .i64 m.states, .int .i64 m.loads, .slice none 0 0, .slice none 0 0, .slice none 0 0] 31)) := hW1
  have hbA : Below w.heap.size w W1 := by rw [hW1]; exact (((Below.refl _ _).alloc (Nat.le_refl _) _).alloc (by simp) _).alloc (by simp; omega) _
  have hmb : Blk W1 w.heap.size #[.int .i64 m.procs, .int .i64 m.states, .int .i64 m.loads, .slice ao m.links.length cap, .slice aor m.rules.length capr, .slice aos m.starts.length caps] 26 := by rw [hW1]; exact Blk.alloc (Blk.alloc (heap_alloc_new w _) _) _
  have hrb : Blk W1 (w.heap.size + 1) #[.int .i64 0, .int .i64 0, .int .i64 0, .slice none 0 0, .slice none 0 0, .slice none 0 0] 31 := by rw [hW1]; exact Blk.alloc (blk_newQ (by simp)) _
  have hob : Blk W1 (w.heap.size + 2) #[.int .i64 m.procs, .int .i64 m.states, .int .i64 m.loads, .slice none 0 0, .slice none 0 0, .slice none 0 0] 31 := by rw [hW1]; exact blk_newQ (by simp)
  have hzA : w.heap.size + 3 ≤ W1.heap.size := by rw [hW1]; simp
  clear hW1
  go_enter Try.func15, Try.ntmps15
  go_upto_region 2 with fail
  rw [← HW1.out]
  clear HW1
  go_wp2
  go_loopw [4] (fun s wr => ∃ (k : Nat) (v : Value), s = .int .i64 k ∧ k ≤ m.links.length ∧ Blk wr (w.heap.size + 2) #[.int .i64 m.procs, .int .i64 m.states, .int .i64 m.loads, v, .slice none 0 0, .slice none 0 0] 31 ∧ Own lkE wr (w.heap.size + 3) v (m.links.take k) ∧ KeptF (fun i => i = w.heap.size + 2) W1 wr ∧ (∀ g, v.ownBlock = some g → W1.heap.size ≤ g)) (fun s _ => m.links.length - (intOf s).toNat)
  case atStart => exact ⟨0, _, rfl, Nat.zero_le _, hob, by rw [List.take_zero]; exact Own.nil _ _ _, KeptF.refl _ _, fun g hg => by cases hg⟩
  case round =>
    obtain ⟨k, v, rfl, hk, hob2, hO, hK, hvA⟩ := hrel
    have hbw : Below w.heap.size w wr := hbA.trans (KeptF.below hK hbA.size (fun i hi => by omega))
    have hsz : w.heap.size + 3 ≤ wr.heap.size := Nat.le_trans hzA hK.size
    have c0 : wr.cell? ⟨w.heap.size, 3, none⟩ = some (.slice ao m.links.length cap) := (hK.cell (p := ⟨w.heap.size, 3, none⟩) (show w.heap.size < W1.heap.size by omega) (by simp)).trans (hmb.cell 3)
    by_cases hlt : k < m.links.length
    · obtain ⟨x, hx⟩ := get_of_lt hlt
      obtain ⟨b, off, hao, hbB, hc⟩ := RowsAt.at_ (h.keep (hbw.mono hB)).links hx
      subst hao
      have x0 := hc 0 (.int .i64 x.f) rfl
      have x1 := hc 1 (.int .i64 x.t) rfl
      have x2 := hc 2 (.int .i64 x.a) rfl
      simp only [Nat.add_zero] at x0
      have Hx : Hid (m.links[k]? = some x) := hx
      have hlk := take_len hlt
      have Hlk : Hid ((m.links.take k).length = k) := hlk
      obtain ⟨ao2, cap2, hvf, hcap2⟩ := hO.form'
      rw [hlk] at hvf hcap2
      subst hvf
      have o3 : wr.cell? ⟨w.heap.size + 2, 3, none⟩ = some (.slice ao2 k cap2) := hob2.cell 3
      have hcc := newCells (wr.alloc (.cells #[.int .i64 x.f, .int .i64 x.t, .int .i64 x.a] 93)) [.int .i64 x.f, .int .i64 x.t, .int .i64 x.a] 94
      rw [World.size_alloc] at hcc
      have hcc2 : ∀ j u, ([.int .i64 x.f, .int .i64 x.t, .int .i64 x.a])[j]? = some u → ((wr.alloc (.cells #[.int .i64 x.f, .int .i64 x.t, .int .i64 x.a] 93)).alloc (.cells #[.int .i64 x.f, .int .i64 x.t, .int .i64 x.a] 94)).cell? ((⟨wr.heap.size + 1, 0, none⟩ : Addr).add j) = some u := fun j u hu => hcc j u hu
      have hWW : KeptF (fun _ => False) wr ((wr.alloc (.cells #[.int .i64 x.f, .int .i64 x.t, .int .i64 x.a] 93)).alloc (.cells #[.int .i64 x.f, .int .i64 x.t, .int .i64 x.a] 94)) := ((KeptF.refl _ wr).alloc _).alloc _
      have hWl := hWW.size
      have hown0 : ((wr.alloc (.cells #[.int .i64 x.f, .int .i64 x.t, .int .i64 x.a] 93)).alloc (.cells #[.int .i64 x.f, .int .i64 x.t, .int .i64 x.a] 94)).ownsRow (w.heap.size + 3) 94 3 (.slice ao2 k cap2) k (flat lkE (m.links.take k)) := by
        have := hO.keep hWW (fun _ _ e => e)
        unfold Own at this
        rw [Hlk.out] at this
        exact this
      have hlb : b < wr.heap.size := block_lt_of_cell x0
      have hlo := hob2.lt
      clear hlk hx hc hcc
      go_wp2_with (at_builtin; refine wpList_append_ownX rfl (.tmp 33) (.tmp 41) 27 rfl (w.heap.size + 3) 94 il _ 3 24 Try.underlying27 hil hil0 hil1 hil2 rfl (by decide) (.slice ao2 k cap2) k (flat lkE (m.links.take k)) rfl ?own ⟨wr.heap.size + 1, 0, none⟩ 1 1 [.int .i64 x.f, .int .i64 x.t, .int .i64 x.a] rfl ?len ?cells ?one ?b1 ?b2 ?hb ?k)
      case own => exact hown0
      case len => rfl
      case cells => exact hcc2
      case one => exact three_one
      case b1 => unfold maxLen; omega
      case b2 => omega
      case hb => exact Nat.le_trans hsz hWl
      case k =>
        intro v2 w2 hown2 hgr2 hfr2
        have hOb : ∀ g, (Value.slice ao2 k cap2).ownBlock = some g → w.heap.size + 3 ≤ g := fun g hg => (hO.lt hg).1
        have hK2 : KeptF (fun g => (Value.slice ao2 k cap2).ownBlock = some g) wr w2 := (hWW.weaken (fun _ _ e => e.elim)).trans (KeptF.of_grown hgr2 (fun k h _ => h))
        have hob3 := hob2.keep hK2 (fun e => by have := hOb _ e; omega)
        have o3b : w2.cell? ⟨w.heap.size + 2, 3, none⟩ = some (.slice ao2 k cap2) := hob3.cell 3
        have o3f : w2.frozen? ⟨w.heap.size + 2, 3, none⟩ = false := hob3.frozen 3
        have hO2 : Own lkE w2 (w.heap.size + 3) v2 (m.links.take (k + 1)) := by
          rw [take_snoc Hx.out]
          exact Own.snoc (by rw [Hlk.out]; exact hown2)
        have hKA : KeptF (fun i => i = w.heap.size + 2) W1 w2 := hK.trans' hK2 (fun i hi e => by have := hvA i e; omega)
        have hv2A : ∀ g, v2.ownBlock = some g → W1.heap.size ≤ g := fun g hg => by
          rcases hfr2 g hg with h1 | h1
          · exact hvA g h1
          · have := hK.size; omega
        have hO2lt : ∀ g, v2.ownBlock = some g → w.heap.size + 3 ≤ g := fun g hg => (hO2.lt hg).1
        obtain ⟨ao3, cap3, hv3, hcap3⟩ := hO2.form'
        have hl1 : (m.links.take (k + 1)).length = k + 1 := by rw [List.length_take]; omega
        rw [hl1] at hv3
        subst hv3
        clear hl1
        clear hown2 hgr2 hfr2 hown0 hcc2 hWW hO x0 x1 x2 c0 o3
        go_wp2
        go_roundw
        case rel =>
          refine ⟨k + 1, _, by go_num, hlt, hob3.set 3 _, hO2.keep ((KeptF.refl (fun i => i = w.heap.size + 2) w2).setCell (p := ⟨w.heap.size + 2, 3, none⟩) (.inl rfl) _) (fun g hg e => by have := hO2lt g hg; omega), hKA.setCell (p := ⟨w.heap.size + 2, 3, none⟩) (.inl rfl) _, hv2A⟩
        case measure => simp [intOf]; omega
    · have hke : k = m.links.length := by omega
      subst hke
      rw [List.take_length] at hO
      obtain ⟨wA, hwA⟩ : ∃ wA, wA = wr := ⟨_, rfl⟩
      subst hwA
      obtain ⟨v1, hv1⟩ : ∃ v1, v1 = v := ⟨_, rfl⟩
      subst hv1
      have hL := hO
      have hKA := hK
      have hobA := hob2
      have hmA := hmb.keep hK (by omega)
      have hrA := hrb.keep hK (by omega)
      have hbwA := hbw
      have hszA := hsz
      clear hO hK hob2 hk hvA hbA hmb hrb hob hzA hbw hsz
      go_wp2
      clear c0 hlt
      go_loopw [6] (fun s wr => ∃ (k : Nat) (v2 : Value) (RS : List RuleS), s = .int .i64 k ∧ k ≤ m.rules.length ∧ Blk wr (w.heap.size + 2) #[.int .i64 m.procs, .int .i64 m.states, .int .i64 m.loads, v1, v2, .slice none 0 0] 31 ∧ Own rlE wr (w.heap.size + 3) v2 RS ∧ RS.map RuleS.r = m.rules.take k ∧ (∀ x ∈ RS, Own etE wr (w.heap.size + 3) x.ev x.r.es ∧ ∀ g, x.ev.ownBlock = some g → wA.heap.size ≤ g ∧ v2.ownBlock ≠ some g) ∧ KeptF (fun i => i = w.heap.size + 2) wA wr ∧ (∀ g, v2.ownBlock = some g → wA.heap.size ≤ g)) (fun s _ => m.rules.length - (intOf s).toNat)
      case atStart => exact ⟨0, _, [], rfl, Nat.zero_le _, hobA, Own.nil _ _ _, by simp, fun x hx => by simp at hx, KeptF.refl _ _, fun g hg => by cases hg⟩
      case round =>
        obtain ⟨w1, hw1⟩ : ∃ w1, w1 = wr := ⟨_, rfl⟩
        subst hw1
        obtain ⟨k, v2, RS, rfl, hk, hob2, hRO, hmap, hEm, hK, hvA⟩ := hrel
        have hbw : Below w.heap.size w w1 := hbwA.trans (KeptF.below hK hbwA.size (fun i hi => by omega))
        have hsz : w.heap.size + 3 ≤ w1.heap.size := Nat.le_trans hszA hK.size
        have hm1 := hmA.keep hK (by omega)
        have c0 : w1.cell? ⟨w.heap.size, 4, none⟩ = some (.slice aor m.rules.length capr) := hm1.cell 4
        by_cases hlt : k < m.rules.length
        · obtain ⟨⟨r, ev⟩, hRx, hmr, hE⟩ := h.rule hlt
          have hmr : m.rules[k]? = some r := hmr
          have hE : EmitsAt w B ev r.es := hE
          have hre := b4 r (List.mem_of_getElem? hmr)
          obtain ⟨aoe, cape, rfl, hcape⟩ := RowsAt.form hE
          obtain ⟨b, off, hao, hbB, hc⟩ := RowsAt.at_ (h.keep (hbw.mono hB)).rules.1 hRx
          subst hao
          have x0 := hc 0 (.int .i64 r.p) rfl
          have x1 := hc 1 (.int .i64 r.s) rfl
          have x2 := hc 2 (.int .i64 r.l) rfl
          have x3 := hc 3 (.int .i64 r.n) rfl
          have x4 := hc 4 (.slice aoe r.es.length cape) rfl
          simp only [Nat.add_zero] at x0
          have Hr : Hid (m.rules[k]? = some r) := hmr
          have hlb : b < w1.heap.size := block_lt_of_cell x0
          have hrb1 : Blk (w1.alloc (.cells #[.int .i64 r.p, .int .i64 r.s, .int .i64 r.l, .int .i64 r.n, .slice aoe r.es.length cape] 97)) w1.heap.size #[.int .i64 r.p, .int .i64 r.s, .int .i64 r.l, .int .i64 r.n, .slice aoe r.es.length cape] 97 := heap_alloc_new w1 _
          have hzr : (w1.alloc (.cells #[.int .i64 r.p, .int .i64 r.s, .int .i64 r.l, .int .i64 r.n, .slice aoe r.es.length cape] 97)).heap.size = w1.heap.size + 1 := by simp
          have Hzr : Hid ((w1.alloc (.cells #[.int .i64 r.p, .int .i64 r.s, .int .i64 r.l, .int .i64 r.n, .slice aoe r.es.length cape] 97)).heap.size = w1.heap.size + 1) := hzr
          have Hmap : Hid (RS.map RuleS.r = m.rules.take k) := hmap
          have hRl : RS.length = k := by have := congrArg List.length hmap; rw [List.length_map, take_len hlt] at this; exact this
          have HRl : Hid (RS.length = k) := hRl
          have hKR : KeptF (fun _ => False) w1 (w1.alloc (.cells #[.int .i64 r.p, .int .i64 r.s, .int .i64 r.l, .int .i64 r.n, .slice aoe r.es.length cape] 97)) := (KeptF.refl _ w1).alloc _
          clear hc hRx hmr hmap hRl hzr
          go_wp2
          clear x0 x1 x2 x3 x4 c0
          go_loopw [8, 9] (fun s8 s9 wr => ∃ (i : Nat) (l : Value), s8 = l ∧ s9 = .int .i64 i ∧ i ≤ r.es.length ∧ Own etE wr (w1.heap.size + 1) l (r.es.take i) ∧ KeptF (fun _ => False) (w1.alloc (.cells #[.int .i64 r.p, .int .i64 r.s, .int .i64 r.l, .int .i64 r.n, .slice aoe r.es.length cape] 97)) wr) (fun _ s9 _ => r.es.length - (intOf s9).toNat)
          case atStart => exact ⟨0, _, rfl, rfl, Nat.zero_le _, by rw [List.take_zero]; exact Own.nil _ _ _, KeptF.refl _ _⟩
          case round =>
            obtain ⟨i, l, rfl, rfl, hi, hO, hKi⟩ := hrel
            have hri := hrb1.keep hKi (fun e => e)
            have hszi : w1.heap.size + 1 ≤ wr.heap.size := by have := hKi.size; rw [Hzr.out] at this; exact this
            have hK1i : KeptF (fun _ => False) w1 wr := hKR.trans hKi
            have r4 : wr.cell? ⟨w1.heap.size, 4, none⟩ = some (.slice aoe r.es.length cape) := hri.cell 4
            by_cases hli : i < r.es.length
            · obtain ⟨e, he⟩ := get_of_lt hli
              have hbi : Below w.heap.size w wr := hbw.trans (KeptF.below hK1i hbw.size (fun i hi => hi.elim))
              obtain ⟨eb, eo, hao, hebB, hec⟩ := RowsAt.at_ (RowsAt.keep hE (hbi.mono hB)) he
              subst hao
              have y0 := hec 0 (.int .i64 e.k) rfl
              have y1 := hec 1 (.int .i64 e.d) rfl
              have y2 := hec 2 (.int .i64 e.l) rfl
              simp only [Nat.add_zero] at y0
              have He : Hid (r.es[i]? = some e) := he
              have hlk := take_len hli
              have Hlk : Hid ((r.es.take i).length = i) := hlk
              obtain ⟨ao2, cap2, hvf, hcap2⟩ := hO.form'
              rw [hlk] at hvf hcap2
              subst hvf
              have hcc := newCells (wr.alloc (.cells #[.int .i64 e.k, .int .i64 e.d, .int .i64 e.l] 100)) [.int .i64 e.k, .int .i64 e.d, .int .i64 e.l] 101
              rw [World.size_alloc] at hcc
              have hcc2 : ∀ j u, ([.int .i64 e.k, .int .i64 e.d, .int .i64 e.l])[j]? = some u → ((wr.alloc (.cells #[.int .i64 e.k, .int .i64 e.d, .int .i64 e.l] 100)).alloc (.cells #[.int .i64 e.k, .int .i64 e.d, .int .i64 e.l] 101)).cell? ((⟨wr.heap.size + 1, 0, none⟩ : Addr).add j) = some u := fun j u hu => hcc j u hu
              have hWW : KeptF (fun _ => False) wr ((wr.alloc (.cells #[.int .i64 e.k, .int .i64 e.d, .int .i64 e.l] 100)).alloc (.cells #[.int .i64 e.k, .int .i64 e.d, .int .i64 e.l] 101)) := ((KeptF.refl _ wr).alloc _).alloc _
              have hWl := hWW.size
              have hown0 : ((wr.alloc (.cells #[.int .i64 e.k, .int .i64 e.d, .int .i64 e.l] 100)).alloc (.cells #[.int .i64 e.k, .int .i64 e.d, .int .i64 e.l] 101)).ownsRow (w1.heap.size + 1) 101 3 (.slice ao2 i cap2) i (flat etE (r.es.take i)) := by
                have := hO.keep hWW (fun _ _ e => e)
                unfold Own at this
                rw [Hlk.out] at this
                exact this
              have hleb : eb < wr.heap.size := block_lt_of_cell y0
              have hlri := hri.lt
              clear hlk he hec hcc
              go_wp2_with (at_builtin; refine wpList_append_ownX rfl (.tmp 68) (.tmp 76) 98 rfl (w1.heap.size + 1) 101 ie _ 3 24 Try.underlying98 hie hie0 hie1 hie2 rfl (by decide) (.slice ao2 i cap2) i (flat etE (r.es.take i)) rfl ?own ⟨wr.heap.size + 1, 0, none⟩ 1 1 [.int .i64 e.k, .int .i64 e.d, .int .i64 e.l] rfl ?len ?cells ?one ?b1 ?b2 ?hb ?k)
              case own => exact hown0
              case len => rfl
              case cells => exact hcc2
              case one => exact three_one
              case b1 => unfold maxLen; omega
              case b2 => omega
              case hb => exact Nat.le_trans hszi hWl
              case k =>
                intro l2 w2 hown2 hgr2 hfr2
                have hK2 : KeptF (fun g => (Value.slice ao2 i cap2).ownBlock = some g) wr w2 := (hWW.weaken (fun _ _ e => e.elim)).trans (KeptF.of_grown hgr2 (fun k h _ => h))
                have hO2 : Own etE w2 (w1.heap.size + 1) l2 (r.es.take (i + 1)) := by
                  rw [take_snoc He.out]
                  exact Own.snoc (by rw [Hlk.out]; exact hown2)
                have hKi2 : KeptF (fun _ => False) _ w2 := hKi.trans' hK2 (fun g hg e => by have := (hO.lt e).1; rw [Hzr.out] at hg; omega)
                clear hown2 hgr2 hfr2 hown0 hcc2 hWW y0 y1 y2 r4
                go_wp2
                go_roundw
                case rel => exact ⟨i + 1, l2, rfl, by go_num, hli, hO2, hKi2⟩
                case measure => simp [intOf]; omega
            · have hie' : i = r.es.length := by omega
              subst hie'
              rw [List.take_length] at hO
              obtain ⟨aol, capl, hlf, hcapl⟩ := hO.form'
              have z0 : wr.cell? ⟨w1.heap.size, 0, none⟩ = some (.int .i64 r.p) := hri.cell 0
              have z1 : wr.cell? ⟨w1.heap.size, 1, none⟩ = some (.int .i64 r.s) := hri.cell 1
              have z2 : wr.cell? ⟨w1.heap.size, 2, none⟩ = some (.int .i64 r.l) := hri.cell 2
              have z3 : wr.cell? ⟨w1.heap.size, 3, none⟩ = some (.int .i64 r.n) := hri.cell 3
              have HO : Hid (Own etE wr (w1.heap.size + 1) (.slice aol r.es.length capl) r.es) := by rw [hlf] at hO; exact hO
              subst hlf
              clear hO
              have hob3 := hob2.keep hK1i (fun e => e)
              obtain ⟨ao2, cap2, hvf, hcap2⟩ := hRO.form'
              rw [HRl.out] at hvf hcap2
              subst hvf
              have o4 : wr.cell? ⟨w.heap.size + 2, 4, none⟩ = some (.slice ao2 k cap2) := hob3.cell 4
              have hcc2 : ∀ j u, ([.int .i64 r.p, .int .i64 r.s, .int .i64 r.l, .int .i64 r.n, .slice aol r.es.length capl])[j]? = some u → (wr.alloc (.cells #[.int .i64 r.p, .int .i64 r.s, .int .i64 r.l, .int .i64 r.n, .slice aol r.es.length capl] 103)).cell? ((⟨wr.heap.size, 0, none⟩ : Addr).add j) = some u := fun j u hu => newCells wr [.int .i64 r.p, .int .i64 r.s, .int .i64 r.l, .int .i64 r.n, .slice aol r.es.length capl] 103 j u hu
              have hone : ∀ u ∈ ([.int .i64 r.p, .int .i64 r.s, .int .i64 r.l, .int .i64 r.n, .slice aol r.es.length capl] : List Value), u.oneCell' = true := by
                intro u hu
                simp only [List.mem_cons, List.not_mem_nil, or_false] at hu
                rcases hu with rfl | rfl | rfl | rfl | rfl <;> rfl
              have hWW : KeptF (fun _ => False) wr (wr.alloc (.cells #[.int .i64 r.p, .int .i64 r.s, .int .i64 r.l, .int .i64 r.n, .slice aol r.es.length capl] 103)) := (KeptF.refl _ wr).alloc _
              have hWl := hWW.size
              have hown0 : (wr.alloc (.cells #[.int .i64 r.p, .int .i64 r.s, .int .i64 r.l, .int .i64 r.n, .slice aol r.es.length capl] 103)).ownsRow (w.heap.size + 3) 103 5 (.slice ao2 k cap2) k (flat rlE RS) := by
                have := (hRO.keep hK1i (fun _ _ e => e)).keep hWW (fun _ _ e => e)
                unfold Own at this
                rw [HRl.out] at this
                exact this
              have hlo := hob3.lt
              have hlri := hri.lt
              go_wp2_with (at_builtin; refine wpList_append_ownX rfl (.tmp 79) (.tmp 90) 28 rfl (w.heap.size + 3) 103 ir _ 5 56 Try.underlying28 hir hir0 hir1 hir2 rfl (by decide) (.slice ao2 k cap2) k (flat rlE RS) rfl ?own ⟨wr.heap.size, 0, none⟩ 1 1 [.int .i64 r.p, .int .i64 r.s, .int .i64 r.l, .int .i64 r.n, .slice aol r.es.length capl] rfl ?len ?cells ?one ?b1 ?b2 ?hb ?k)
              case own => exact hown0
              case len => rfl
              case cells => exact hcc2
              case one => exact hone
              case b1 => unfold maxLen; omega
              case b2 => omega
              case hb => exact Nat.le_trans (by omega) hWl
              case k =>
                intro v3 w2 hown2 hgr2 hfr2
                have hvb : ∀ g, (Value.slice ao2 k cap2).ownBlock = some g → w.heap.size + 3 ≤ g ∧ g < w1.heap.size := fun g hg => hRO.lt hg
                have hK2 : KeptF (fun g => (Value.slice ao2 k cap2).ownBlock = some g) wr w2 := (hWW.weaken (fun _ _ e => e.elim)).trans (KeptF.of_grown hgr2 (fun k h _ => h))
                have hK12 : KeptF (fun g => (Value.slice ao2 k cap2).ownBlock = some g) w1 w2 := (hK1i.weaken (fun _ _ e => e.elim)).trans hK2
                have hob4 := hob3.keep hK2 (fun e => by have := (hvb _ e).1; omega)
                have o4b : w2.cell? ⟨w.heap.size + 2, 4, none⟩ = some (.slice ao2 k cap2) := hob4.cell 4
                have o4f : w2.frozen? ⟨w.heap.size + 2, 4, none⟩ = false := hob4.frozen 4
                have hO2 : Own rlE w2 (w.heap.size + 3) v3 (RS ++ [⟨r, aol, r.es.length, capl⟩]) := Own.snoc (by rw [HRl.out]; exact hown2)
                have hO2lt : ∀ g, v3.ownBlock = some g → w.heap.size + 3 ≤ g := fun g hg => (hO2.lt hg).1
                have hfr : ∀ g, v3.ownBlock = some g → (Value.slice ao2 k cap2).ownBlock = some g ∨ wr.heap.size ≤ g := fun g hg => by
                  rcases hfr2 g hg with h1 | h1
                  · exact .inl h1
                  · exact .inr (by omega)
                have hKA2 : KeptF (fun i => i = w.heap.size + 2) wA w2 := hK.trans' hK12 (fun i hi e => by have := hvA i e; omega)
                have hv3A : ∀ g, v3.ownBlock = some g → wA.heap.size ≤ g := fun g hg => by
                  rcases hfr g hg with h1 | h1
                  · exact hvA g h1
                  · have := hK.size; omega
                have HE2 : Hid (∀ x ∈ RS ++ [(⟨r, aol, r.es.length, capl⟩ : RuleS)], Own etE w2 (w.heap.size + 3) x.ev x.r.es ∧ ∀ g, x.ev.ownBlock = some g → wA.heap.size ≤ g ∧ v3.ownBlock ≠ some g) := fun x hx => by
                  rcases List.mem_append.1 hx with hx | hx
                  · obtain ⟨h1, h2⟩ := hEm x hx
                    refine ⟨h1.keep hK12 (fun g hg e => (h2 g hg).2 e), fun g hg => ⟨(h2 g hg).1, fun e => ?_⟩⟩
                    rcases hfr g e with h3 | h3
                    · exact (h2 g hg).2 h3
                    · have := (h1.lt hg).2; omega
                  · simp at hx
                    subst hx
                    have h1 : Own etE wr (w1.heap.size + 1) (.slice aol r.es.length capl) r.es := HO.out
                    refine ⟨(h1.keep hK2 (fun g hg e => by have := (h1.lt hg).1; have := (hvb g e).2; omega)).mono (by omega), fun g hg => ⟨by have := (h1.lt hg).1; have := hK.size; omega, fun e => ?_⟩⟩
                    rcases hfr g e with h3 | h3
                    · have := (h1.lt hg).1; have := (hvb g h3).2; omega
                    · have := (h1.lt hg).2; omega
                obtain ⟨ao3, cap3, hv3, hcap3⟩ := hO2.form'
                have hl1 : (RS ++ [(⟨r, aol, r.es.length, capl⟩ : RuleS)]).length = k + 1 := by rw [List.length_append, HRl.out]; rfl
                rw [hl1] at hv3
                subst hv3
                clear hl1 hown2 hgr2 hfr2 hown0 hcc2 hone hWW z0 z1 z2 z3 r4 o4 hEm hRO
                go_wp2
                go_roundw
                case rel =>
                  have ks : ∀ W : World, KeptF (fun i => i = w.heap.size + 2) W (W.setCell ⟨w.heap.size + 2, 4, none⟩ (.slice ao3 (k + 1) cap3)) := fun W => (KeptF.refl (fun i => i = w.heap.size + 2) W).setCell (p := ⟨w.heap.size + 2, 4, none⟩) (.inl rfl) _
                  refine ⟨k + 1, _, RS ++ [⟨r, aol, r.es.length, capl⟩], by go_num, hlt, hob4.set 4 _, hO2.keep (ks w2) (fun g hg e => by have := hO2lt g hg; omega), ?_, ?_, hKA2.setCell (p := ⟨w.heap.size + 2, 4, none⟩) (.inl rfl) _, hv3A⟩
                  · rw [List.map_append, Hmap.out, take_snoc Hr.out]; rfl
                  · intro x hx
                    obtain ⟨h1, h2⟩ := HE2.out x hx
                    exact ⟨h1.keep (ks w2) (fun g hg e => by have := (h1.lt hg).1; omega), h2⟩
                case measure => simp [intOf]; omega
        · have hke : k = m.rules.length := by omega
          subst hke
          rw [List.take_length] at hmap
          obtain ⟨wB, hwB⟩ : ∃ wB, wB = w1 := ⟨_, rfl⟩
          subst hwB
          have hob := hob2
          have hL := hL.keep hK (fun g hg e => by have := (hL.lt hg).1; omega)
          have hmb := hm1
          have hrb := hrA.keep hK (by omega)
          have hbA := hbw
          have hzA := hsz
          have hEm3 : ∀ x ∈ RS, Own etE wB (w.heap.size + 3) x.ev x.r.es := fun x hx => (hEm x hx).1
          clear hEm
          clear hob2 hm1 hrA hmA hbw hsz hbwA hszA hK hKA hvA hk hobA
          go_wp2
          clear c0 hlt
          go_loopw [11] (fun s wr => ∃ (k : Nat) (v : Value), s = .int .i64 k ∧ k ≤ m.starts.length ∧ Blk wr (w.heap.size + 2) #[.int .i64 m.procs, .int .i64 m.states, .int .i64 m.loads, v1, v2, v] 31 ∧ Own stE wr (w.heap.size + 3) v (m.starts.take k) ∧ KeptF (fun i => i = w.heap.size + 2) wB wr ∧ (∀ g, v.ownBlock = some g → wB.heap.size ≤ g)) (fun s _ => m.starts.length - (intOf s).toNat)
          case atStart => exact ⟨0, _, rfl, Nat.zero_le _, hob, by rw [List.take_zero]; exact Own.nil _ _ _, KeptF.refl _ _, fun g hg => by cases hg⟩
          case round =>
            obtain ⟨k, v, rfl, hk, hob2, hO, hK, hvA⟩ := hrel
            have hbw : Below w.heap.size w wr := hbA.trans (KeptF.below hK hbA.size (fun i hi => by omega))
            have hsz : w.heap.size + 3 ≤ wr.heap.size := Nat.le_trans hzA hK.size
            have c0 : wr.cell? ⟨w.heap.size, 5, none⟩ = some (.slice aos m.starts.length caps) := (hK.cell (p := ⟨w.heap.size, 5, none⟩) (show w.heap.size < wB.heap.size by omega) (by simp)).trans (hmb.cell 5)
            by_cases hlt : k < m.starts.length
            · obtain ⟨x, hx⟩ := get_of_lt hlt
              obtain ⟨b, off, hao, hbB, hc⟩ := RowsAt.at_ (h.keep (hbw.mono hB)).starts hx
              subst hao
              have x0 := hc 0 (.int .i64 x.p) rfl
              have x1 := hc 1 (.int .i64 x.t) rfl
              have x2 := hc 2 (.int .i64 x.l) rfl
              simp only [Nat.add_zero] at x0
              have Hx : Hid (m.starts[k]? = some x) := hx
              have hlk := take_len hlt
              have Hlk : Hid ((m.starts.take k).length = k) := hlk
              obtain ⟨ao2, cap2, hvf, hcap2⟩ := hO.form'
              rw [hlk] at hvf hcap2
              subst hvf
              have o5 : wr.cell? ⟨w.heap.size + 2, 5, none⟩ = some (.slice ao2 k cap2) := hob2.cell 5
              have hcc := newCells (wr.alloc (.cells #[.int .i64 x.p, .int .i64 x.t, .int .i64 x.l] 72)) [.int .i64 x.p, .int .i64 x.t, .int .i64 x.l] 73
              rw [World.size_alloc] at hcc
              have hcc2 : ∀ j u, ([.int .i64 x.p, .int .i64 x.t, .int .i64 x.l])[j]? = some u → ((wr.alloc (.cells #[.int .i64 x.p, .int .i64 x.t, .int .i64 x.l] 72)).alloc (.cells #[.int .i64 x.p, .int .i64 x.t, .int .i64 x.l] 73)).cell? ((⟨wr.heap.size + 1, 0, none⟩ : Addr).add j) = some u := fun j u hu => hcc j u hu
              have hWW : KeptF (fun _ => False) wr ((wr.alloc (.cells #[.int .i64 x.p, .int .i64 x.t, .int .i64 x.l] 72)).alloc (.cells #[.int .i64 x.p, .int .i64 x.t, .int .i64 x.l] 73)) := ((KeptF.refl _ wr).alloc _).alloc _
              have hWl := hWW.size
              have hown0 : ((wr.alloc (.cells #[.int .i64 x.p, .int .i64 x.t, .int .i64 x.l] 72)).alloc (.cells #[.int .i64 x.p, .int .i64 x.t, .int .i64 x.l] 73)).ownsRow (w.heap.size + 3) 73 3 (.slice ao2 k cap2) k (flat stE (m.starts.take k)) := by
                have := hO.keep hWW (fun _ _ e => e)
                unfold Own at this
                rw [Hlk.out] at this
                exact this
              have hlb : b < wr.heap.size := block_lt_of_cell x0
              have hlo := hob2.lt
              clear hlk hx hc hcc
              go_wp2_with (at_builtin; refine wpList_append_ownX rfl (.tmp 106) (.tmp 114) 29 rfl (w.heap.size + 3) 73 ist _ 3 24 Try.underlying29 hist hist0 hist1 hist2 rfl (by decide) (.slice ao2 k cap2) k (flat stE (m.starts.take k)) rfl ?own ⟨wr.heap.size + 1, 0, none⟩ 1 1 [.int .i64 x.p, .int .i64 x.t, .int .i64 x.l] rfl ?len ?cells ?one ?b1 ?b2 ?hb ?k)
              case own => exact hown0
              case len => rfl
              case cells => exact hcc2
              case one => exact three_one
              case b1 => unfold maxLen; omega
              case b2 => omega
              case hb => exact Nat.le_trans hsz hWl
              case k =>
                intro v2 w2 hown2 hgr2 hfr2
                have hOb : ∀ g, (Value.slice ao2 k cap2).ownBlock = some g → w.heap.size + 3 ≤ g := fun g hg => (hO.lt hg).1
                have hK2 : KeptF (fun g => (Value.slice ao2 k cap2).ownBlock = some g) wr w2 := (hWW.weaken (fun _ _ e => e.elim)).trans (KeptF.of_grown hgr2 (fun k h _ => h))
                have hob3 := hob2.keep hK2 (fun e => by have := hOb _ e; omega)
                have o5b : w2.cell? ⟨w.heap.size + 2, 5, none⟩ = some (.slice ao2 k cap2) := hob3.cell 5
                have o5f : w2.frozen? ⟨w.heap.size + 2, 5, none⟩ = false := hob3.frozen 5
                have hO2 : Own stE w2 (w.heap.size + 3) v2 (m.starts.take (k + 1)) := by
                  rw [take_snoc Hx.out]
                  exact Own.snoc (by rw [Hlk.out]; exact hown2)
                have hKA : KeptF (fun i => i = w.heap.size + 2) wB w2 := hK.trans' hK2 (fun i hi e => by have := hvA i e; omega)
                have hv2A : ∀ g, v2.ownBlock = some g → wB.heap.size ≤ g := fun g hg => by
                  rcases hfr2 g hg with h1 | h1
                  · exact hvA g h1
                  · have := hK.size; omega
                have hO2lt : ∀ g, v2.ownBlock = some g → w.heap.size + 3 ≤ g := fun g hg => (hO2.lt hg).1
                obtain ⟨ao3, cap3, hv3, hcap3⟩ := hO2.form'
                have hl1 : (m.starts.take (k + 1)).length = k + 1 := by rw [List.length_take]; omega
                rw [hl1] at hv3
                subst hv3
                clear hl1
                clear hown2 hgr2 hfr2 hown0 hcc2 hWW hO x0 x1 x2 c0 o5
                go_wp2
                go_roundw
                case rel =>
                  refine ⟨k + 1, _, by go_num, hlt, hob3.set 5 _, hO2.keep ((KeptF.refl (fun i => i = w.heap.size + 2) w2).setCell (p := ⟨w.heap.size + 2, 5, none⟩) (.inl rfl) _) (fun g hg e => by have := hO2lt g hg; omega), hKA.setCell (p := ⟨w.heap.size + 2, 5, none⟩) (.inl rfl) _, hv2A⟩
                case measure => simp [intOf]; omega
            · have hke : k = m.starts.length := by omega
              subst hke
              rw [List.take_length] at hO
              have hO3 := hO
              have k6 : ∀ u0 u1 u2 u3 u4 u5, KeptF (fun i => i = w.heap.size + 1) wr ((((((wr.setCell ⟨w.heap.size + 1, 0, none⟩ u0).setCell ⟨w.heap.size + 1, 1, none⟩ u1).setCell ⟨w.heap.size + 1, 2, none⟩ u2).setCell ⟨w.heap.size + 1, 3, none⟩ u3).setCell ⟨w.heap.size + 1, 4, none⟩ u4).setCell ⟨w.heap.size + 1, 5, none⟩ u5) := fun u0 u1 u2 u3 u4 u5 =>
                ((((((KeptF.refl (fun i => i = w.heap.size + 1) wr).setCell (p := ⟨w.heap.size + 1, 0, none⟩) (.inl rfl) u0).setCell (p := ⟨w.heap.size + 1, 1, none⟩) (.inl rfl) u1).setCell (p := ⟨w.heap.size + 1, 2, none⟩) (.inl rfl) u2).setCell (p := ⟨w.heap.size + 1, 3, none⟩) (.inl rfl) u3).setCell (p := ⟨w.heap.size + 1, 4, none⟩) (.inl rfl) u4).setCell (p := ⟨w.heap.size + 1, 5, none⟩) (.inl rfl) u5
              have hrb3 := hrb.keep hK (by omega)
              have q0 : wr.cell? ⟨w.heap.size + 1, 0, none⟩ = some (.int .i64 0) := hrb3.cell 0
              have q1 : wr.cell? ⟨w.heap.size + 1, 1, none⟩ = some (.int .i64 0) := hrb3.cell 1
              have q2 : wr.cell? ⟨w.heap.size + 1, 2, none⟩ = some (.int .i64 0) := hrb3.cell 2
              have q3 : wr.cell? ⟨w.heap.size + 1, 3, none⟩ = some (.slice none 0 0) := hrb3.cell 3
              have q4 : wr.cell? ⟨w.heap.size + 1, 4, none⟩ = some (.slice none 0 0) := hrb3.cell 4
              have q5 : wr.cell? ⟨w.heap.size + 1, 5, none⟩ = some (.slice none 0 0) := hrb3.cell 5
              have qf := hrb3.frozen
              have p0 : wr.cell? ⟨w.heap.size + 2, 0, none⟩ = some (.int .i64 m.procs) := hob2.cell 0
              have p1 : wr.cell? ⟨w.heap.size + 2, 1, none⟩ = some (.int .i64 m.states) := hob2.cell 1
              have p2 : wr.cell? ⟨w.heap.size + 2, 2, none⟩ = some (.int .i64 m.loads) := hob2.cell 2
              have p3 : wr.cell? ⟨w.heap.size + 2, 3, none⟩ = some v1 := hob2.cell 3
              have p4 : wr.cell? ⟨w.heap.size + 2, 4, none⟩ = some v2 := hob2.cell 4
              have p5 : wr.cell? ⟨w.heap.size + 2, 5, none⟩ = some v := hob2.cell 5
              obtain ⟨ga1, gc1, hf1, _⟩ := hL.form'
              obtain ⟨ga2, gc2, hf2, _⟩ := hRO.form'
              obtain ⟨ga3, gc3, hf3, _⟩ := hO.form'
              have HL : Hid (Own lkE wB (w.heap.size + 3) v1 m.links) := hL
              have HR : Hid (Own rlE wB (w.heap.size + 3) v2 RS) := hRO
              have HO : Hid (Own stE wr (w.heap.size + 3) v m.starts) := hO
              subst hf1 hf2 hf3
              clear hL hRO hO hO3
              go_wp2
              have k7 := k6 (.int .i64 m.procs) (.int .i64 m.states) (.int .i64 m.loads) (.slice ga1 m.links.length gc1) (.slice ga2 RS.length gc2) (.slice ga3 m.starts.length gc3)
              refine bodyPost_ret (v := .agg #[.int .i64 m.procs, .int .i64 m.states, .int .i64 m.loads, .slice ga1 m.links.length gc1, .slice ga2 RS.length gc2, .slice ga3 m.starts.length gc3]) (by simp [results, Try.results15, go_sem, q0, q1, q2, q3, q4, q5]) rfl ⟨_, _, _, RS.map RuleS.v, rfl, ⟨?_, ⟨?_, ?_⟩, ?_, ?_⟩, ?_⟩
              · exact ((HL.out.keep hK (fun g hg e => by have := (HL.out.lt hg).1; omega)).keep k7 (fun g hg e => by have := (HL.out.lt hg).1; omega)).rows
              · exact RowsAt.map (f := RuleS.v) ((HR.out.keep hK (fun g hg e => by have := (HR.out.lt hg).1; omega)).keep k7 (fun g hg e => by have := (HR.out.lt hg).1; omega)).rows
              · intro z hz
                obtain ⟨y, hy, rfl⟩ := List.mem_map.1 hz
                have h1 := hEm3 y hy
                exact ((h1.keep hK (fun g hg e => by have := (h1.lt hg).1; omega)).keep k7 (fun g hg e => by have := (h1.lt hg).1; omega)).rows
              · exact (HO.out.keep k7 (fun g hg e => by have := (HO.out.lt hg).1; omega)).rows
              · rw [List.map_map]; exact hmap
              · exact hbw.trans (KeptF.below k7 hbw.size (fun i hi => by omega))

end Go.Proofs.Ytaieackeflmhgaa

namespace Go.Proofs.Ytaieackeflmhgaa
open Go.RowKit Go.Sort Go.Maps

theorem num_any (x : Int) (w : World) : Calls Try.prog 18 #[.int .i64 x] w fun e w' => e = .returned (.int .i64 x) ∧ w' = w := by
  go_enter Try.func18, Try.ntmps18
  go_wp2
  go_ret
  exact ⟨rfl, rfl⟩

set_option maxRecDepth 100000 in
set_option maxHeartbeats 4000000 in
theorem checks_any (w : World) (m : Mdl) (lv rv sv : Value) (R : List RuleV) (en : Int) (h : ModelAt w w.heap.size lv rv sv m R)
    (b1 : m.links.length * 24 ≤ 140737488351232) (b2 : m.rules.length * 56 ≤ 140737488351232) (b3 : m.starts.length * 24 ≤ 140737488351232) (b4 : ∀ r ∈ m.rules, r.es.length * 24 ≤ 140737488351232) :
    Calls Try.prog 3 #[.agg #[.int .i64 m.procs, .int .i64 m.states, .int .i64 m.loads, lv, rv, sv], .int .i64 en] w fun e w' => e = .returned (.bool true) ∧ Below w.heap.size w w' := by
  have hne : ∀ r ∈ m.rules, r.es.length ≤ 5864062014634 := fun r hr => by have := b4 r hr; omega
  obtain ⟨W0, hW0⟩ : ∃ W0, W0 = w.alloc (.cells #[.int .i64 m.procs, .int .i64 m.states, .int .i64 m.loads, lv, rv, sv] 26) := ⟨_, rfl⟩
  have HW0 : Hid (W0 = w.alloc (.cells #[.int .i64 m.procs, .int .i64 m.states, .int .i64 m.loads, lv, rv, sv] 26)) := hW0
  have hB0 : Below w.heap.size w W0 := by rw [hW0]; exact (Below.refl _ _).alloc (Nat.le_refl _) _
  have hmb : Blk W0 w.heap.size #[.int .i64 m.procs, .int .i64 m.states, .int .i64 m.loads, lv, rv, sv] 26 := by rw [hW0]; exact heap_alloc_new w _
  have k0 := Gr.cells (v := .int .i64 m.procs) (hmb.cell 0)
  have k1 := Gr.cells (v := .int .i64 m.states) (hmb.cell 1)
  have k2 := Gr.cells (v := .int .i64 m.loads) (hmb.cell 2)
  have k3 := Gr.cells (v := lv) (hmb.cell 3)
  have k4 := Gr.cells (v := rv) (hmb.cell 4)
  have k5 := Gr.cells (v := sv) (hmb.cell 5)
  have hg0 := Gr.refl W0
  have hlm := hmb.lt
  have hmade := made_any m lv rv sv R w.heap.size W0 (h.keep hB0) hB0.size b1 b2 b3 b4
  clear hW0
  go_enter Try.func3, Try.ntmps3
  go_upto_region 1 with fail
  rw [← HW0.out]
  clear HW0
  go_wp2_with fail
  refine hmade.mono ?_
  rintro e1 w1 ⟨lv', rv', sv', R', rfl, hM', g1⟩
  clear hmade
  obtain ⟨a1, c1, hf1, _⟩ := RowsAt.form hM'.links
  obtain ⟨a2, c2, hf2, _⟩ := RowsAt.form hM'.rules.1
  obtain ⟨a3, c3, hf3, _⟩ := RowsAt.form hM'.starts
  subst hf1 hf2 hf3
  have hg1 : Gr W0 (w1.alloc (.cells #[.int .i64 m.procs, .int .i64 m.states, .int .i64 m.loads, (.slice a1 m.links.length c1), (.slice a2 R'.length c2), (.slice a3 m.starts.length c3)] 31)) := Gr.alloc (W0 := W0) g1 _
  have hbA : Below w1.heap.size w1 (w1.alloc (.cells #[.int .i64 m.procs, .int .i64 m.states, .int .i64 m.loads, (.slice a1 m.links.length c1), (.slice a2 R'.length c2), (.slice a3 m.starts.length c3)] 31)) := (Below.refl _ _).alloc (Nat.le_refl _) _
  have hck := check_any m (.slice a1 m.links.length c1) (.slice a2 R'.length c2) (.slice a3 m.starts.length c3) R' w1.heap.size en (w1.alloc (.cells #[.int .i64 m.procs, .int .i64 m.states, .int .i64 m.loads, (.slice a1 m.links.length c1), (.slice a2 R'.length c2), (.slice a3 m.starts.length c3)] 31)) (hM'.keep hbA) hbA.size hne
  go_wp2_with fail
  refine hck.mono ?_
  rintro e2 w2 ⟨rfl, g2⟩
  clear hck
  have hg2 : Gr W0 w2 := Gr.trans hg1 g2
  have hbw2 : Below w.heap.size w w2 := Gr.below hg2 hB0
  have hrf := refCheck_any m lv rv sv R w.heap.size en w2 (h.keep hbw2) hbw2.size hne
  generalize answer m en = a at *
  go_wp2_with fail
  refine hrf.mono ?_
  rintro e3 w3 ⟨pv, rfl, g3, -⟩
  clear hrf
  have hbw3 : Below w.heap.size w w3 := hbw2.trans (g3.mono hbw2.size)
  have hnum := num_any a.1 w3
  go_wp2_with (go_at_call 18; refine hnum.mono ?_; rintro e4 w4 ⟨rfl, rfl⟩)
  go_ret
  exact ⟨rfl, hbw3⟩

end Go.Proofs.Ytaieackeflmhgaa

namespace Go.Proofs.Ytaieackeflmhgaa
open Go.RowKit Go.Sort Go.Maps

set_option maxRecDepth 100000 in
set_option maxHeartbeats 8000000 in
theorem longer_any (w : World) (m : Mdl) (lv rv sv : Value) (R : List RuleV) (en la : Int) (h : ModelAt w w.heap.size lv rv sv m R)
    (b1 : m.links.length * 24 ≤ 140737488351232) (b2 : m.rules.length * 56 ≤ 140737488351232) (b3 : m.starts.length * 24 ≤ 140737488351232) (b4 : ∀ r ∈ m.rules, r.es.length * 24 ≤ 140737488351232) :
    Calls Try.prog 6 #[.agg #[.int .i64 m.procs, .int .i64 m.states, .int .i64 m.loads, lv, rv, sv], .int .i64 en, .int .i64 la] w fun e w' => e = .returned (.bool true) ∧ Below w.heap.size w w' := by
  have hne : ∀ r ∈ m.rules, r.es.length ≤ 5864062014634 := fun r hr => by have := b4 r hr; omega
  obtain ⟨W0, hW0⟩ : ∃ W0, W0 = w.alloc (.cells #[.int .i64 m.procs, .int .i64 m.states, .int .i64 m.loads, lv, rv, sv] 26) := ⟨_, rfl⟩
  have HW0 : Hid (W0 = w.alloc (.cells #[.int .i64 m.procs, .int .i64 m.states, .int .i64 m.loads, lv, rv, sv] 26)) := hW0
  have hB0 : Below w.heap.size w W0 := by rw [hW0]; exact (Below.refl _ _).alloc (Nat.le_refl _) _
  have hmb : Blk W0 w.heap.size #[.int .i64 m.procs, .int .i64 m.states, .int .i64 m.loads, lv, rv, sv] 26 := by rw [hW0]; exact heap_alloc_new w _
  have hmade := made_any m lv rv sv R w.heap.size W0 (h.keep hB0) hB0.size b1 b2 b3 b4
  clear hW0
  go_enter Try.func6, Try.ntmps6
  go_upto_if 28 with fail
  rw [← HW0.out]
  clear HW0
  go_cut [1, 2] (fun s1 s2 wc => ∃ a b : Int, s1 = .int .i64 a ∧ s2 = .int .i64 b ∧ a ≤ b ∧ W0 = wc)
  case first =>
    clear hmade hmb hB0
    by_cases hlt : la < en
    · go_wp2
      go_meet
      case rel => exact ⟨la, en, rfl, rfl, by omega, rfl⟩
    · go_wp2
      go_meet
      case rel => exact ⟨en, la, rfl, rfl, by omega, rfl⟩
  case rest =>
    obtain ⟨a, b, rfl, rfl, hab, hwc⟩ := hcut
    subst hwc
    have k0 := Gr.cells (v := .int .i64 m.procs) (hmb.cell 0)
    have k1 := Gr.cells (v := .int .i64 m.states) (hmb.cell 1)
    have k2 := Gr.cells (v := .int .i64 m.loads) (hmb.cell 2)
    have k3 := Gr.cells (v := lv) (hmb.cell 3)
    have k4 := Gr.cells (v := rv) (hmb.cell 4)
    have k5 := Gr.cells (v := sv) (hmb.cell 5)
    have hg0 := Gr.refl W0
    have hlm := hmb.lt
    go_wp2_with fail
    refine hmade.mono ?_
    rintro e1 w1 ⟨lv', rv', sv', R', rfl, hM', g1⟩
    clear hmade
    obtain ⟨a1, c1, hf1, _⟩ := RowsAt.form hM'.links
    obtain ⟨a2, c2, hf2, _⟩ := RowsAt.form hM'.rules.1
    obtain ⟨a3, c3, hf3, _⟩ := RowsAt.form hM'.starts
    subst hf1 hf2 hf3
    obtain ⟨WA, hWA⟩ : ∃ WA, WA = w1.alloc (.cells #[.int .i64 m.procs, .int .i64 m.states, .int .i64 m.loads, (.slice a1 m.links.length c1), (.slice a2 R'.length c2), (.slice a3 m.starts.length c3)] 31) := ⟨_, rfl⟩
    have HWA : Hid (WA = w1.alloc (.cells #[.int .i64 m.procs, .int .i64 m.states, .int .i64 m.loads, (.slice a1 m.links.length c1), (.slice a2 R'.length c2), (.slice a3 m.starts.length c3)] 31)) := hWA
    have hg1 : Gr W0 WA := by rw [hWA]; exact Gr.alloc (W0 := W0) g1 _
    have hbA : Below w1.heap.size w1 WA := by rw [hWA]; exact (Below.refl _ _).alloc (Nat.le_refl _) _
    have hkb : Blk WA w1.heap.size #[.int .i64 m.procs, .int .i64 m.states, .int .i64 m.loads, (.slice a1 m.links.length c1), (.slice a2 R'.length c2), (.slice a3 m.starts.length c3)] 31 := by rw [hWA]; exact heap_alloc_new w1 _
    clear hWA
    have hMA := hM'.keep hbA
    have j0 := Gr.cells (v := .int .i64 m.procs) (hkb.cell 0)
    have j1 := Gr.cells (v := .int .i64 m.states) (hkb.cell 1)
    have j2 := Gr.cells (v := .int .i64 m.loads) (hkb.cell 2)
    have j3 := Gr.cells (v := .slice a1 m.links.length c1) (hkb.cell 3)
    have j4 := Gr.cells (v := .slice a2 R'.length c2) (hkb.cell 4)
    have j5 := Gr.cells (v := .slice a3 m.starts.length c3) (hkb.cell 5)
    have hgA := Gr.refl WA
    have hlk := hkb.lt
    have hr1 := run_any2 m (.slice a1 m.links.length c1) (.slice a2 R'.length c2) (.slice a3 m.starts.length c3) R' w1.heap.size a WA hMA hbA.size hne
    go_upto_region 6 with fail
    rw [← HWA.out]
    clear HWA
    go_wp2_with fail
    refine hr1.mono ?_
    rintro e2 w2 ⟨g2, s1, l1, rfl, -, hd1⟩
    clear hr1
    have hgA2 : Gr WA w2 := g2
    have hg2 : Gr W0 w2 := Gr.trans hg1 g2
    have hr2 := run_any2 m (.slice a1 m.links.length c1) (.slice a2 R'.length c2) (.slice a3 m.starts.length c3) R' w1.heap.size b w2 (hMA.keep (hgA2.mono hbA.size)) (Nat.le_trans hbA.size hgA2.size) hne
    go_wp2_with fail
    refine hr2.mono ?_
    rintro e3 w3 ⟨g3, s2, l2, rfl, -, hd2⟩
    clear hr2 j0 j1 j2 j3 j4 j5
    have hg3 : Gr W0 w3 := Gr.trans hg2 g3
    have hbw3 : Below w.heap.size w w3 := Gr.below hg3 hB0
    have hrf := refCheck_any m lv rv sv R w.heap.size a w3 (h.keep hbw3) hbw3.size hne
    go_wp2_with fail
    refine hrf.mono ?_
    rintro e4 w4 ⟨pv1, rfl, g4, -⟩
    clear hrf
    have hg4 : Gr W0 w4 := Gr.trans hg3 g4
    have hbw4 : Below w.heap.size w w4 := Gr.below hg4 hB0
    have hrf := refCheck_any m lv rv sv R w.heap.size b w4 (h.keep hbw4) hbw4.size hne
    go_wp2_with fail
    refine hrf.mono ?_
    rintro e5 w5 ⟨pv2, rfl, g5, -⟩
    clear hrf
    have hg5 : Gr W0 w5 := Gr.trans hg4 g5
    have hbw5 : Below w.heap.size w w5 := Gr.below hg5 hB0
    have hnum1 := num_any (answer m a).1 w5
    have hnum2 := num_any (answer m b).1 w5
    by_cases ha : answer m a = (0, 0)
    · by_cases hb : answer m b = (0, 0)
      · obtain ⟨sb1, lb1, t1, L1, rfl, rfl, hR1⟩ := hd1 ha
        obtain ⟨sb2, lb2, t2, L2, rfl, rfl, hR2⟩ := hd2 hb
        clear hd1 hd2
        obtain ⟨hv, hFew⟩ := answer_zero hb
        obtain ⟨hRt, hen0, hen⟩ := right_of_valid hv
        rw [ha] at hnum1
        rw [hb] at hnum2
        rw [ha, hb]
        clear ha hb hv
        have hlong := longer hRt hab hen hR1.stop hR2.stop
        have hI1 := atK_inv hRt (Int.le_trans hab hen) t1
        have hI2 := atK_inv hRt hen t2
        have hR1 := ((hR1.keep g3).keep g4).keep g5
        have hR2 := (hR2.keep g4).keep g5
        have hlen2 : ∀ (p : Nat) (l : List Dn), (atK m b t2).done[p]? = some l → l.length ≤ 5000 := fun p l hl => by
          obtain ⟨k, hk, hnk⟩ := hFew
          have h1 := hI2.dl p l hl
          have h2 := atK_all m b k
          rw [atK_end hnk hR2.stop] at h2
          omega
        have hp1 := hRt.lim.p1
        have hp2 := hRt.lim.p2
        obtain ⟨n, hn⟩ : ∃ n : Nat, m.procs = (n : Int) := ⟨m.procs.toNat, by omega⟩
        have hnp : np m = n := by unfold np; omega
        have Hnp : Hid (np m = n) := hnp
        have hn6 : n ≤ 6 := by omega
        have p0 : w5.cell? ⟨w.heap.size, 0, none⟩ = some (.int .i64 (n : Int)) := by rw [← hn]; exact k0 _ hg5
        rw [hnp]
        have hlm5 : w.heap.size < w5.heap.size := Nat.lt_of_lt_of_le hlm hg5.size
        clear k0 k1 k2 k3 k4 k5 hn hnp hFew
        go_wp2_with (go_at_call 18; refine hnum1.mono ?_; rintro e6 w6 ⟨rfl, hw6⟩; rw [hw6]; clear hw6)
        clear hnum1 hnum2
        go_loopw [23] (fun s23 wr => ∃ i : Nat, s23 = .int .i64 i ∧ i ≤ n ∧ Below w5.heap.size w5 wr) (fun s23 _ => n - (intOf s23).toNat)
        case atStart => exact ⟨0, rfl, Nat.zero_le _, Below.refl _ _⟩
        case round =>
          obtain ⟨i, rfl, hi, hbr⟩ := hrel
          have p0r : wr.cell? ⟨w.heap.size, 0, none⟩ = some (.int .i64 (n : Int)) := (hbr.cell (p := ⟨w.heap.size, 0, none⟩) hlm5).trans p0
          have hlmr : w.heap.size < wr.heap.size := Nat.lt_of_lt_of_le hlm5 hbr.size
          by_cases hlt : i < n
          · have hQ1 := hR1.keep hbr
            have hQ2 := hR2.keep hbr
            obtain ⟨v1, hv1⟩ := get_of_lt (d := L1) (k := i) (by rw [hQ1.len, Hnp.out]; exact hlt)
            obtain ⟨v2, hv2⟩ := get_of_lt (d := L2) (k := i) (by rw [hQ2.len, Hnp.out]; exact hlt)
            obtain ⟨l, hl⟩ := get_of_lt (d := (atK m a t1).done) (k := i) (by rw [hI1.ld, Hnp.out]; exact hlt)
            obtain ⟨x, hlx, hlt1, hlt2⟩ := hlong i l hl
            have hr1 := hQ1.rows i v1 l hv1 hl
            have hr2 := hQ2.rows i v2 (l ++ x) hv2 hlx
            have hlen := hlen2 i _ hlx
            have hlenle : l.length ≤ (l ++ x).length := by simp
            obtain ⟨ao1, cap1, hf1, hcp1⟩ := RowsAt.form hr1
            obtain ⟨ao2, cap2, hf2, hcp2⟩ := RowsAt.form hr2
            subst hf1 hf2
            obtain ⟨ln, hln⟩ : ∃ ln, ln = (l ++ x).length := ⟨_, rfl⟩
            have Hln : Hid (ln = (l ++ x).length) := hln
            rw [← hln] at hlenle hcp2 hlen hr2 hv2
            clear hln
            have cl := cell_regrown (v := .slice ao1 l.length cap1) ((hQ1.ls.cell i).trans (by simpa using hv1))
            have cn := cell_regrown (v := .slice ao2 ln cap2) ((hQ2.ls.cell i).trans (by simpa using hv2))
            have hil : (i : Int) < n := by omega
            have dl1 := hQ1.ls.lt
            have dl2 := hQ2.ls.lt
            have hltn : ¬ (ln : Int) < l.length := by omega
            go_upto_region 19 with fail
            refine wp_region_quiet_below (by kernel_rfl) (by kernel_rfl) ?_
            repeat (quiet_step (fail))
            refine wpQuiet_nil ?_
            intro wq hw'
            have hbq := below_of_regrown hw'
            clear hw' cl cn
            have hU1 := hQ1.keep hbq
            have hU2 := hQ2.keep hbq
            have cl := cell_regrown (v := .slice ao1 l.length cap1) ((hU1.ls.cell i).trans (by simpa using hv1))
            have cn := cell_regrown (v := .slice ao2 ln cap2) ((hU2.ls.cell i).trans (by simpa using hv2))
            have el1 := hU1.ls.lt
            have el2 := hU2.ls.lt
            have hlc : l.length ≤ cap2 := Nat.le_trans hlenle hcp2
            have hal : ∀ q : Regrown, Calls Try.prog 24 #[.slice ao1 l.length cap1, .slice ao2 l.length cap2] (grow (redrawn wq q.d) q.os) fun e' w'' => e' = .returned (.bool true) ∧ ∃ q : Regrown, w'' = grow (redrawn wq q.d) q.os := fun q => by
              have hb2 := below_regrown wq q.d q.os
              have r2 := ((hr2.keep hbq).mono hbq.size).take l.length (by rw [← Hln.out]; exact hlenle)
              rw [List.take_left'  rfl] at r2
              exact Calls.regrown_of (alike_any _ wq.heap.size _ _ l (((hr1.keep hbq).mono hbq.size).keep hb2) (r2.keep hb2) hb2.size (by omega))
            go_upto_region 21 with fail
            refine wp_region_quiet_below (by kernel_rfl) (by kernel_rfl) ?_
            repeat (quiet_step (exact hal _))
            refine wpQuiet_nil ?_
            intro wy hw'
            have hby := below_of_regrown hw'
            clear hw' cl cn hal
            have hbwy : Below w5.heap.size w5 wy := hbr.trans ((hbq.trans (hby.mono hbq.size)).mono hbr.size)
            have hY1 := hU1.keep hby
            have hY2 := hU2.keep hby
            have hr2y := (((hr2.keep hbq).mono hbq.size).keep hby).mono hby.size
            clear hQ1 hQ2 hU1 hU2 hr1 hr2 dl1 dl2 el1 el2
            go_wp2
            go_loopw [25] (fun s25 wr => ∃ j : Nat, s25 = .int .i64 j ∧ j ≤ ln ∧ Below wy.heap.size wy wr) (fun s25 _ => ln - (intOf s25).toNat)
            case atStart => exact ⟨0, rfl, Nat.zero_le _, Below.refl _ _⟩
            case round =>
              obtain ⟨j, rfl, hj, hbz⟩ := hrel
              have hZ1 := hY1.keep hbz
              have hZ2 := hY2.keep hbz
              have c2 : wr.cell? ⟨lb2, i, none⟩ = some (.slice ao2 ln cap2) := (hZ2.ls.cell i).trans (by simpa using hv2)
              have zl1 := hZ1.ls.lt
              have zl2 := hZ2.ls.lt
              by_cases hjl : j < ln
              · obtain ⟨y, hy⟩ := get_of_lt (d := l ++ x) (k := j) (by rw [← Hln.out]; exact hjl)
                obtain ⟨yb, yo, hyao, hyB, hyc⟩ := RowsAt.at_ (hr2y.keep hbz) hy
                subst hyao
                have y0 := cell_regrown (v := .int .i64 y.it.t) (hyc 0 _ rfl)
                simp only [Nat.add_zero] at y0
                have e1 := cell_regrown (v := .slice ao1 l.length cap1) ((hZ1.ls.cell i).trans (by simpa using hv1))
                have e2 := cell_regrown (v := .slice (some ⟨yb, yo, none⟩) ln cap2) c2
                have hjl' : (j : Int) < ln := by omega
                have hyz : yb < wr.heap.size := Nat.lt_of_lt_of_le hyB hbz.size
                by_cases hjx : j < l.length
                · rw [List.getElem?_append_left hjx] at hy
                  have hyt := hlt1 y (List.mem_of_getElem? hy)
                  have hn1 : ¬ b ≤ y.it.t := by omega
                  have hn2 : ¬ a ≤ y.it.t := by omega
                  have hn3 : ¬ (l.length : Int) ≤ j := by omega
                  clear hyc hy
                  go_upto_region 27 with fail
                  refine wp_region_quiet_below (by kernel_rfl) (by kernel_rfl) ?_
                  repeat (first | quiet_step (fail) | go_big_quiet_step (fail))
                  refine wpQuiet_nil ?_
                  intro wv hw'
                  have hbv := below_of_regrown hw'
                  clear hw' y0 e1 e2 c2
                  go_wp2
                  go_roundw
                  case rel => exact ⟨j + 1, by go_num, hjl, hbz.trans (hbv.mono hbz.size)⟩
                  case measure => simp [intOf]; omega
                · rw [List.getElem?_append_right (by omega)] at hy
                  have hyt := hlt2 y (List.mem_of_getElem? hy)
                  have hn1 : ¬ b ≤ y.it.t := by omega
                  have hn2 : a ≤ y.it.t := by omega
                  have hn3 : (l.length : Int) ≤ j := by omega
                  clear hyc hy
                  go_upto_region 27 with fail
                  refine wp_region_quiet_below (by kernel_rfl) (by kernel_rfl) ?_
                  repeat (first | quiet_step (fail) | go_big_quiet_step (fail))
                  refine wpQuiet_nil ?_
                  intro wv hw'
                  have hbv := below_of_regrown hw'
                  clear hw' y0 e1 e2 c2
                  go_wp2
                  go_roundw
                  case rel => exact ⟨j + 1, by go_num, hjl, hbz.trans (hbv.mono hbz.size)⟩
                  case measure => simp [intOf]; omega
              · go_wp2
                go_roundw
                case rel => exact ⟨i + 1, by go_num, hlt, hbwy.trans (hbz.mono hbwy.size)⟩
                case measure => simp [intOf]; omega
          · go_wp2
            go_ret
            exact ⟨rfl, hbw5.trans (hbr.mono hbw5.size)⟩
      · have h1 := answer_ne hb
        rw [ha] at hnum1
        rw [ha]
        clear ha hb hd1 hd2
        generalize answer m b = z at *
        go_wp2_with (go_at_call 18; (first | refine hnum1.mono ?_ | refine hnum2.mono ?_); rintro e6 w6 ⟨rfl, hw6⟩; rw [hw6]; clear hw6)
        go_ret
        exact ⟨rfl, hbw5⟩
    · have h1 := answer_ne ha
      clear ha hd1 hd2
      generalize answer m a = y at *
      generalize answer m b = z at *
      go_wp2_with (go_at_call 18; (first | refine hnum1.mono ?_ | refine hnum2.mono ?_); rintro e6 w6 ⟨rfl, hw6⟩; rw [hw6]; clear hw6)
      go_ret
      exact ⟨rfl, hbw5⟩

end Go.Proofs.Ytaieackeflmhgaa

