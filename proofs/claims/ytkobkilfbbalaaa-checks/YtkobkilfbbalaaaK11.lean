/-
  The law's made: a model, copied.
  The law Checks: true, whatever the model.
  A model, out of its reading: what the row gives, as a plain model in memory.
-/
import Derived.Test.YtkobkilfbbalaaaK05
import Derived.Deep.Cut
import Derived.Deep.CutRange
import Derived.Deep.DeepCutAuto
import Derived.Test.YtkobkilfbbalaaaK10
import Derived.Test.YtkobkilfbbalaaaK04
import Derived.ProofKit
import Derived.SizedLaws
import Derived.Deep.Slices
import Derived.Deep.Strs
import Derived.Lib.SmallJoins
namespace Go.Proofs.Ytkobkilfbbalaaa
open Go.RowKit Go.Sort Go.Maps

theorem three_one {a b c : Int} : ∀ u ∈ [Value.int .i64 a, .int .i64 b, .int .i64 c], u.oneCell' = true := by
  intro u hu
  simp only [List.mem_cons, List.not_mem_nil, or_false] at hu
  rcases hu with rfl | rfl | rfl <;> rfl
def lkE : Enc MLink := ⟨3, 78, linkC, fun _ => rfl, by omega, fun _ => three_one⟩
def etE : Enc MEmit := ⟨3, 85, emitC, fun _ => rfl, by omega, fun _ => three_one⟩
def stE : Enc MStart := ⟨3, 90, startC, fun _ => rfl, by omega, fun _ => three_one⟩
structure RuleS where
  r : MRule
  ao : Option Addr
  len : Nat
  cap : Nat
def RuleS.ev (x : RuleS) : Value := .slice x.ao x.len x.cap
def RuleS.v (x : RuleS) : RuleV := ⟨x.r, x.ev⟩
def rlE : Enc RuleS := ⟨5, 87, fun x => ruleC x.v, fun _ => rfl, by omega, fun x u hu => by
  simp only [ruleC, RuleS.v, RuleS.ev, List.mem_cons, List.not_mem_nil, or_false] at hu
  rcases hu with rfl | rfl | rfl | rfl | rfl <;> rfl⟩
theorem info_lk : (Try.prog.info? 78).map (fun i => (i.zero, i.size, i.bytes)) = some (some (.agg #[.int .i64 0, .int .i64 0, .int .i64 0]), 3, 24) := by kernel_rfl
theorem info_et : (Try.prog.info? 85).map (fun i => (i.zero, i.size, i.bytes)) = some (some (.agg #[.int .i64 0, .int .i64 0, .int .i64 0]), 3, 24) := by kernel_rfl
theorem info_st : (Try.prog.info? 90).map (fun i => (i.zero, i.size, i.bytes)) = some (some (.agg #[.int .i64 0, .int .i64 0, .int .i64 0]), 3, 24) := by kernel_rfl
theorem info_rl : (Try.prog.info? 87).map (fun i => (i.zero, i.size, i.bytes)) = some (some (.agg #[.int .i64 0, .int .i64 0, .int .i64 0, .int .i64 0, .slice none 0 0]), 5, 56) := by kernel_rfl

theorem Own.rows {α : Type} {E : Enc α} {w : World} {B : Nat} {v : Value} {l : List α} (h : Own E w B v l) : RowsAt E.sz E.enc w w.heap.size v l := by
  rcases h.form with ⟨h1, h2⟩ | ⟨g, cap, h1, h2⟩
  · subst h2
    exact ⟨none, 0, h1, Nat.le_refl _, fun h => absurd rfl h⟩
  · subst h1
    refine ⟨_, _, rfl, h2, fun _ => ⟨g, 0, rfl, (h.lt rfl).2, fun j x k u hx hu => ?_⟩⟩
    rw [Nat.zero_add]
    exact h.cell hx hu

theorem RowsAt.map {α β : Type} {sz : Nat} {en : β → List Value} {f : α → β} {w : World} {B : Nat} {v : Value} {l : List α} (h : RowsAt sz (fun x => en (f x)) w B v l) : RowsAt sz en w B v (l.map f) := by
  obtain ⟨ao, cap, h1, h2, h3⟩ := h
  refine ⟨ao, cap, by rw [List.length_map]; exact h1, by rw [List.length_map]; exact h2, fun hne => ?_⟩
  obtain ⟨b, off, h4, h5, h6⟩ := h3 (fun e => hne (by rw [e]; rfl))
  refine ⟨b, off, h4, h5, fun j x k u hx hu => ?_⟩
  rw [List.getElem?_map] at hx
  obtain ⟨y, hy, rfl⟩ := Option.map_eq_some_iff.1 hx
  exact h6 j y k u hy hu

theorem take_snoc {α : Type} {l : List α} {k : Nat} {x : α} (h : l[k]? = some x) : l.take (k + 1) = l.take k ++ [x] := by
  rw [List.take_add_one, h]; rfl
theorem take_len {α : Type} {l : List α} {k : Nat} (h : k < l.length) : (l.take k).length = k := by rw [List.length_take]; omega

theorem blk_newQ {W : World} {b : Nat} {c : Array Value} {T : TypeId} (h : b = W.heap.size) : Blk (W.alloc (.cells c T)) b c T := by
  subst h; exact heap_alloc_new W _

set_option maxRecDepth 100000 in
set_option maxHeartbeats 8000000 in
theorem made_any (m : Mdl) (lv rv sv : Value) (R : List RuleV) (B : Nat) (w : World) (h : ModelAt w B lv rv sv m R) (hB : B ≤ w.heap.size)
    (b1 : m.links.length * 24 ≤ 140737488351232) (b2 : m.rules.length * 56 ≤ 140737488351232) (b3 : m.starts.length * 24 ≤ 140737488351232) (b4 : ∀ r ∈ m.rules, r.es.length * 24 ≤ 140737488351232) :
    Calls Try.prog 10 #[.agg #[.int .i64 m.procs, .int .i64 m.states, .int .i64 m.loads, lv, rv, sv]] w fun e w' => ∃ (lv' rv' sv' : Value) (R' : List RuleV), e = .returned (.agg #[.int .i64 m.procs, .int .i64 m.states, .int .i64 m.loads, lv', rv', sv']) ∧ ModelAt w' w'.heap.size lv' rv' sv' m R' ∧ Below w.heap.size w w' := by
  obtain ⟨ao, cap, hlv, hcap⟩ := RowsAt.form h.links
  subst hlv
  obtain ⟨aor, capr, hrv, hcapr⟩ := RowsAt.form h.rules.1
  rw [h.rlen] at hrv hcapr
  subst hrv
  obtain ⟨aos, caps, hsv, hcaps⟩ := RowsAt.form h.starts
  subst hsv
  obtain ⟨il, hil, hil0, hil1, hil2⟩ := info_parts info_lk
  obtain ⟨ie, hie, hie0, hie1, hie2⟩ := info_parts info_et
  obtain ⟨ist, hist, hist0, hist1, hist2⟩ := info_parts info_st
  obtain ⟨ir, hir, hir0, hir1, hir2⟩ := info_parts info_rl
  obtain ⟨W1, hW1⟩ : ∃ W1, W1 = ((w.alloc (.cells #[.int .i64 m.procs, .int .i64 m.states, .int .i64 m.loads, .slice ao m.links.length cap, .slice aor m.rules.length capr, .slice aos m.starts.length caps] 26)).alloc (.cells #[.int .i64 0, .int .i64 0, .int .i64 0, .slice none 0 0, .slice none 0 0, .slice none 0 0] 31)).alloc (.cells #[.int .i64 m.procs, .int .i64 m.states, .int .i64 m.loads, .slice none 0 0, .slice none 0 0, .slice none 0 0] 31) := ⟨_, rfl⟩
  have HW1 : Hid (W1 = ((w.alloc (.cells #[.int .i64 m.procs, .int .i64 m.states, .int .i64 m.loads, .slice ao m.links.length cap, .slice aor m.rules.length capr, .slice aos m.starts.length caps] 26)).alloc (.cells #[.int .i64 0, .int .i64 0, .int .i64 0, .slice none 0 0, .slice none 0 0, .slice none 0 0] 31)).alloc (.cells #[.int .i64 m.procs, .int .i64 m.states, .int .i64 m.loads, .slice none 0 0, .slice none 0 0, .slice none 0 0] 31)) := hW1
  have hbA : Below w.heap.size w W1 := by rw [hW1]; exact (((Below.refl _ _).alloc (Nat.le_refl _) _).alloc (by simp) _).alloc (by simp; omega) _
  have hmb : Blk W1 w.heap.size #[.int .i64 m.procs, .int .i64 m.states, .int .i64 m.loads, .slice ao m.links.length cap, .slice aor m.rules.length capr, .slice aos m.starts.length caps] 26 := by rw [hW1]; exact Blk.alloc (Blk.alloc (heap_alloc_new w _) _) _
  have hrb : Blk W1 (w.heap.size + 1) #[.int .i64 0, .int .i64 0, .int .i64 0, .slice none 0 0, .slice none 0 0, .slice none 0 0] 31 := by rw [hW1]; exact Blk.alloc (blk_newQ (by simp)) _
  have hob : Blk W1 (w.heap.size + 2) #[.int .i64 m.procs, .int .i64 m.states, .int .i64 m.loads, .slice none 0 0, .slice none 0 0, .slice none 0 0] 31 := by rw [hW1]; exact blk_newQ (by simp)
  have hzA : w.heap.size + 3 ≤ W1.heap.size := by rw [hW1]; simp
  clear hW1
  go_enter Try.func10, Try.ntmps10
  go_upto_region 2 with fail
  rw [← HW1.out]
  clear HW1
  go_wp2
  go_loopw [4] (fun s wr => ∃ (k : Nat) (v : Value), s = .int .i64 k ∧ k ≤ m.links.length ∧ Blk wr (w.heap.size + 2) #[.int .i64 m.procs, .int .i64 m.states, .int .i64 m.loads, v, .slice none 0 0, .slice none 0 0] 31 ∧ Own lkE wr (w.heap.size + 3) v (m.links.take k) ∧ KeptF (fun i => i = w.heap.size + 2) W1 wr ∧ (∀ g, v.ownBlock = some g → W1.heap.size ≤ g)) (fun s _ => m.links.length - (intOf s).toNat)
  case atStart => exact ⟨0, _, rfl, Nat.zero_le _, hob, by rw [List.take_zero]; exact Own.nil _ _ _, KeptF.refl _ _, fun g hg => by cases hg⟩
  case round =>
    obtain ⟨k, v, rfl, hk, hob2, hO, hK, hvA⟩ := hrel
    have hbw : Below w.heap.size w wr := hbA.trans (KeptF.below hK hbA.size (fun i hi => by omega))
    have hsz : w.heap.size + 3 ≤ wr.heap.size := Nat.le_trans hzA hK.size
    have c0 : wr.cell? ⟨w.heap.size, 3, none⟩ = some (.slice ao m.links.length cap) := (hK.cell (p := ⟨w.heap.size, 3, none⟩) (show w.heap.size < W1.heap.size by omega) (by simp)).trans (hmb.cell 3)
    by_cases hlt : k < m.links.length
    · obtain ⟨x, hx⟩ := get_of_lt hlt
      obtain ⟨b, off, hao, hbB, hc⟩ := RowsAt.at_ (h.keep (hbw.mono hB)).links hx
      subst hao
      have x0 := hc 0 (.int .i64 x.f) rfl
      have x1 := hc 1 (.int .i64 x.t) rfl
      have x2 := hc 2 (.int .i64 x.a) rfl
      simp only [Nat.add_zero] at x0
      have Hx : Hid (m.links[k]? = some x) := hx
      have hlk := take_len hlt
      have Hlk : Hid ((m.links.take k).length = k) := hlk
      obtain ⟨ao2, cap2, hvf, hcap2⟩ := hO.form'
      rw [hlk] at hvf hcap2
      subst hvf
      have o3 : wr.cell? ⟨w.heap.size + 2, 3, none⟩ = some (.slice ao2 k cap2) := hob2.cell 3
      have hcc := newCells (wr.alloc (.cells #[.int .i64 x.f, .int .i64 x.t, .int .i64 x.a] 77)) [.int .i64 x.f, .int .i64 x.t, .int .i64 x.a] 78
      rw [World.size_alloc] at hcc
      have hcc2 : ∀ j u, ([.int .i64 x.f, .int .i64 x.t, .int .i64 x.a])[j]? = some u → ((wr.alloc (.cells #[.int .i64 x.f, .int .i64 x.t, .int .i64 x.a] 77)).alloc (.cells #[.int .i64 x.f, .int .i64 x.t, .int .i64 x.a] 78)).cell? ((⟨wr.heap.size + 1, 0, none⟩ : Addr).add j) = some u := fun j u hu => hcc j u hu
      have hWW : KeptF (fun _ => False) wr ((wr.alloc (.cells #[.int .i64 x.f, .int .i64 x.t, .int .i64 x.a] 77)).alloc (.cells #[.int .i64 x.f, .int .i64 x.t, .int .i64 x.a] 78)) := ((KeptF.refl _ wr).alloc _).alloc _
      have hWl := hWW.size
      have hown0 : ((wr.alloc (.cells #[.int .i64 x.f, .int .i64 x.t, .int .i64 x.a] 77)).alloc (.cells #[.int .i64 x.f, .int .i64 x.t, .int .i64 x.a] 78)).ownsRow (w.heap.size + 3) 78 3 (.slice ao2 k cap2) k (flat lkE (m.links.take k)) := by
        have := hO.keep hWW (fun _ _ e => e)
        unfold Own at this
        rw [Hlk.out] at this
        exact this
      have hlb : b < wr.heap.size := block_lt_of_cell x0
      have hlo := hob2.lt
      clear hlk hx hc hcc
      go_wp2_with (at_builtin; refine wpList_append_ownX rfl (.tmp 33) (.tmp 41) 27 rfl (w.heap.size + 3) 78 il _ 3 24 Try.underlying27 hil hil0 hil1 hil2 rfl (by decide) (.slice ao2 k cap2) k (flat lkE (m.links.take k)) rfl ?own ⟨wr.heap.size + 1, 0, none⟩ 1 1 [.int .i64 x.f, .int .i64 x.t, .int .i64 x.a] rfl ?len ?cells ?one ?b1 ?b2 ?hb ?k)
      case own => exact hown0
      case len => rfl
      case cells => exact hcc2
      case one => exact three_one
      case b1 => unfold maxLen; omega
      case b2 => omega
      case hb => exact Nat.le_trans hsz hWl
      case k =>
        intro v2 w2 hown2 hgr2 hfr2
        have hOb : ∀ g, (Value.slice ao2 k cap2).ownBlock = some g → w.heap.size + 3 ≤ g := fun g hg => (hO.lt hg).1
        have hK2 : KeptF (fun g => (Value.slice ao2 k cap2).ownBlock = some g) wr w2 := (hWW.weaken (fun _ _ e => e.elim)).trans (KeptF.of_grown hgr2 (fun k h _ => h))
        have hob3 := hob2.keep hK2 (fun e => by have := hOb _ e; omega)
        have o3b : w2.cell? ⟨w.heap.size + 2, 3, none⟩ = some (.slice ao2 k cap2) := hob3.cell 3
        have o3f : w2.frozen? ⟨w.heap.size + 2, 3, none⟩ = false := hob3.frozen 3
        have hO2 : Own lkE w2 (w.heap.size + 3) v2 (m.links.take (k + 1)) := by
          rw [take_snoc Hx.out]
          exact Own.snoc (by rw [Hlk.out]; exact hown2)
        have hKA : KeptF (fun i => i = w.heap.size + 2) W1 w2 := hK.trans' hK2 (fun i hi e => by have := hvA i e; omega)
        have hv2A : ∀ g, v2.ownBlock = some g → W1.heap.size ≤ g := fun g hg => by
          rcases hfr2 g hg with h1 | h1
          · exact hvA g h1
          · have := hK.size; omega
        have hO2lt : ∀ g, v2.ownBlock = some g → w.heap.size + 3 ≤ g := fun g hg => (hO2.lt hg).1
        obtain ⟨ao3, cap3, hv3, hcap3⟩ := hO2.form'
        have hl1 : (m.links.take (k + 1)).length = k + 1 := by rw [List.length_take]; omega
        rw [hl1] at hv3
        subst hv3
        clear hl1
        clear hown2 hgr2 hfr2 hown0 hcc2 hWW hO x0 x1 x2 c0 o3
        go_wp2
        go_roundw
        case rel =>
          refine ⟨k + 1, _, by go_num, hlt, hob3.set 3 _, hO2.keep ((KeptF.refl (fun i => i = w.heap.size + 2) w2).setCell (p := ⟨w.heap.size + 2, 3, none⟩) (.inl rfl) _) (fun g hg e => by have := hO2lt g hg; omega), hKA.setCell (p := ⟨w.heap.size + 2, 3, none⟩) (.inl rfl) _, hv2A⟩
        case measure => simp [intOf]; omega
    · have hke : k = m.links.length := by omega
      subst hke
      rw [List.take_length] at hO
      obtain ⟨wA, hwA⟩ : ∃ wA, wA = wr := ⟨_, rfl⟩
      subst hwA
      obtain ⟨v1, hv1⟩ : ∃ v1, v1 = v := ⟨_, rfl⟩
      subst hv1
      have hL := hO
      have hKA := hK
      have hobA := hob2
      have hmA := hmb.keep hK (by omega)
      have hrA := hrb.keep hK (by omega)
      have hbwA := hbw
      have hszA := hsz
      clear hO hK hob2 hk hvA hbA hmb hrb hob hzA hbw hsz
      go_wp2
      clear c0 hlt
      go_loopw [6] (fun s wr => ∃ (k : Nat) (v2 : Value) (RS : List RuleS), s = .int .i64 k ∧ k ≤ m.rules.length ∧ Blk wr (w.heap.size + 2) #[.int .i64 m.procs, .int .i64 m.states, .int .i64 m.loads, v1, v2, .slice none 0 0] 31 ∧ Own rlE wr (w.heap.size + 3) v2 RS ∧ RS.map RuleS.r = m.rules.take k ∧ (∀ x ∈ RS, Own etE wr (w.heap.size + 3) x.ev x.r.es ∧ ∀ g, x.ev.ownBlock = some g → wA.heap.size ≤ g ∧ v2.ownBlock ≠ some g) ∧ KeptF (fun i => i = w.heap.size + 2) wA wr ∧ (∀ g, v2.ownBlock = some g → wA.heap.size ≤ g)) (fun s _ => m.rules.length - (intOf s).toNat)
      case atStart => exact ⟨0, _, [], rfl, Nat.zero_le _, hobA, Own.nil _ _ _, by simp, fun x hx => by simp at hx, KeptF.refl _ _, fun g hg => by cases hg⟩
      case round =>
        obtain ⟨w1, hw1⟩ : ∃ w1, w1 = wr := ⟨_, rfl⟩
        subst hw1
        obtain ⟨k, v2, RS, rfl, hk, hob2, hRO, hmap, hEm, hK, hvA⟩ := hrel
        have hbw : Below w.heap.size w w1 := hbwA.trans (KeptF.below hK hbwA.size (fun i hi => by omega))
        have hsz : w.heap.size + 3 ≤ w1.heap.size := Nat.le_trans hszA hK.size
        have hm1 := hmA.keep hK (by omega)
        have c0 : w1.cell? ⟨w.heap.size, 4, none⟩ = some (.slice aor m.rules.length capr) := hm1.cell 4
        by_cases hlt : k < m.rules.length
        · obtain ⟨⟨r, ev⟩, hRx, hmr, hE⟩ := h.rule hlt
          have hmr : m.rules[k]? = some r := hmr
          have hE : EmitsAt w B ev r.es := hE
          have hre := b4 r (List.mem_of_getElem? hmr)
          obtain ⟨aoe, cape, rfl, hcape⟩ := RowsAt.form hE
          obtain ⟨b, off, hao, hbB, hc⟩ := RowsAt.at_ (h.keep (hbw.mono hB)).rules.1 hRx
          subst hao
          have x0 := hc 0 (.int .i64 r.p) rfl
          have x1 := hc 1 (.int .i64 r.s) rfl
          have x2 := hc 2 (.int .i64 r.l) rfl
          have x3 := hc 3 (.int .i64 r.n) rfl
          have x4 := hc 4 (.slice aoe r.es.length cape) rfl
          simp only [Nat.add_zero] at x0
          have Hr : Hid (m.rules[k]? = some r) := hmr
          have hlb : b < w1.heap.size := block_lt_of_cell x0
          have hrb1 : Blk (w1.alloc (.cells #[.int .i64 r.p, .int .i64 r.s, .int .i64 r.l, .int .i64 r.n, .slice aoe r.es.length cape] 81)) w1.heap.size #[.int .i64 r.p, .int .i64 r.s, .int .i64 r.l, .int .i64 r.n, .slice aoe r.es.length cape] 81 := heap_alloc_new w1 _
          have hzr : (w1.alloc (.cells #[.int .i64 r.p, .int .i64 r.s, .int .i64 r.l, .int .i64 r.n, .slice aoe r.es.length cape] 81)).heap.size = w1.heap.size + 1 := by simp
          have Hzr : Hid ((w1.alloc (.cells #[.int .i64 r.p, .int .i64 r.s, .int .i64 r.l, .int .i64 r.n, .slice aoe r.es.length cape] 81)).heap.size = w1.heap.size + 1) := hzr
          have Hmap : Hid (RS.map RuleS.r = m.rules.take k) := hmap
          have hRl : RS.length = k := by have := congrArg List.length hmap; rw [List.length_map, take_len hlt] at this; exact this
          have HRl : Hid (RS.length = k) := hRl
          have hKR : KeptF (fun _ => False) w1 (w1.alloc (.cells #[.int .i64 r.p, .int .i64 r.s, .int .i64 r.l, .int .i64 r.n, .slice aoe r.es.length cape] 81)) := (KeptF.refl _ w1).alloc _
          clear hc hRx hmr hmap hRl hzr
          go_wp2
          clear x0 x1 x2 x3 x4 c0
          go_loopw [8, 9] (fun s8 s9 wr => ∃ (i : Nat) (l : Value), s8 = l ∧ s9 = .int .i64 i ∧ i ≤ r.es.length ∧ Own etE wr (w1.heap.size + 1) l (r.es.take i) ∧ KeptF (fun _ => False) (w1.alloc (.cells #[.int .i64 r.p, .int .i64 r.s, .int .i64 r.l, .int .i64 r.n, .slice aoe r.es.length cape] 81)) wr) (fun _ s9 _ => r.es.length - (intOf s9).toNat)
          case atStart => exact ⟨0, _, rfl, rfl, Nat.zero_le _, by rw [List.take_zero]; exact Own.nil _ _ _, KeptF.refl _ _⟩
          case round =>
            obtain ⟨i, l, rfl, rfl, hi, hO, hKi⟩ := hrel
            have hri := hrb1.keep hKi (fun e => e)
            have hszi : w1.heap.size + 1 ≤ wr.heap.size := by have := hKi.size; rw [Hzr.out] at this; exact this
            have hK1i : KeptF (fun _ => False) w1 wr := hKR.trans hKi
            have r4 : wr.cell? ⟨w1.heap.size, 4, none⟩ = some (.slice aoe r.es.length cape) := hri.cell 4
            by_cases hli : i < r.es.length
            · obtain ⟨e, he⟩ := get_of_lt hli
              have hbi : Below w.heap.size w wr := hbw.trans (KeptF.below hK1i hbw.size (fun i hi => hi.elim))
              obtain ⟨eb, eo, hao, hebB, hec⟩ := RowsAt.at_ (RowsAt.keep hE (hbi.mono hB)) he
              subst hao
              have y0 := hec 0 (.int .i64 e.k) rfl
              have y1 := hec 1 (.int .i64 e.d) rfl
              have y2 := hec 2 (.int .i64 e.l) rfl
              simp only [Nat.add_zero] at y0
              have He : Hid (r.es[i]? = some e) := he
              have hlk := take_len hli
              have Hlk : Hid ((r.es.take i).length = i) := hlk
              obtain ⟨ao2, cap2, hvf, hcap2⟩ := hO.form'
              rw [hlk] at hvf hcap2
              subst hvf
              have hcc := newCells (wr.alloc (.cells #[.int .i64 e.k, .int .i64 e.d, .int .i64 e.l] 84)) [.int .i64 e.k, .int .i64 e.d, .int .i64 e.l] 85
              rw [World.size_alloc] at hcc
              have hcc2 : ∀ j u, ([.int .i64 e.k, .int .i64 e.d, .int .i64 e.l])[j]? = some u → ((wr.alloc (.cells #[.int .i64 e.k, .int .i64 e.d, .int .i64 e.l] 84)).alloc (.cells #[.int .i64 e.k, .int .i64 e.d, .int .i64 e.l] 85)).cell? ((⟨wr.heap.size + 1, 0, none⟩ : Addr).add j) = some u := fun j u hu => hcc j u hu
              have hWW : KeptF (fun _ => False) wr ((wr.alloc (.cells #[.int .i64 e.k, .int .i64 e.d, .int .i64 e.l] 84)).alloc (.cells #[.int .i64 e.k, .int .i64 e.d, .int .i64 e.l] 85)) := ((KeptF.refl _ wr).alloc _).alloc _
              have hWl := hWW.size
              have hown0 : ((wr.alloc (.cells #[.int .i64 e.k, .int .i64 e.d, .int .i64 e.l] 84)).alloc (.cells #[.int .i64 e.k, .int .i64 e.d, .int .i64 e.l] 85)).ownsRow (w1.heap.size + 1) 85 3 (.slice ao2 i cap2) i (flat etE (r.es.take i)) := by
                have := hO.keep hWW (fun _ _ e => e)
                unfold Own at this
                rw [Hlk.out] at this
                exact this
              have hleb : eb < wr.heap.size := block_lt_of_cell y0
              have hlri := hri.lt
              clear hlk he hec hcc
              go_wp2_with (at_builtin; refine wpList_append_ownX rfl (.tmp 68) (.tmp 76) 82 rfl (w1.heap.size + 1) 85 ie _ 3 24 Try.underlying82 hie hie0 hie1 hie2 rfl (by decide) (.slice ao2 i cap2) i (flat etE (r.es.take i)) rfl ?own ⟨wr.heap.size + 1, 0, none⟩ 1 1 [.int .i64 e.k, .int .i64 e.d, .int .i64 e.l] rfl ?len ?cells ?one ?b1 ?b2 ?hb ?k)
              case own => exact hown0
              case len => rfl
              case cells => exact hcc2
              case one => exact three_one
              case b1 => unfold maxLen; omega
              case b2 => omega
              case hb => exact Nat.le_trans hszi hWl
              case k =>
                intro l2 w2 hown2 hgr2 hfr2
                have hK2 : KeptF (fun g => (Value.slice ao2 i cap2).ownBlock = some g) wr w2 := (hWW.weaken (fun _ _ e => e.elim)).trans (KeptF.of_grown hgr2 (fun k h _ => h))
                have hO2 : Own etE w2 (w1.heap.size + 1) l2 (r.es.take (i + 1)) := by
                  rw [take_snoc He.out]
                  exact Own.snoc (by rw [Hlk.out]; exact hown2)
                have hKi2 : KeptF (fun _ => False) _ w2 := hKi.trans' hK2 (fun g hg e => by have := (hO.lt e).1; rw [Hzr.out] at hg; omega)
                clear hown2 hgr2 hfr2 hown0 hcc2 hWW y0 y1 y2 r4
                go_wp2
                go_roundw
                case rel => exact ⟨i + 1, l2, rfl, by go_num, hli, hO2, hKi2⟩
                case measure => simp [intOf]; omega
            · have hie' : i = r.es.length := by omega
              subst hie'
              rw [List.take_length] at hO
              obtain ⟨aol, capl, hlf, hcapl⟩ := hO.form'
              have z0 : wr.cell? ⟨w1.heap.size, 0, none⟩ = some (.int .i64 r.p) := hri.cell 0
              have z1 : wr.cell? ⟨w1.heap.size, 1, none⟩ = some (.int .i64 r.s) := hri.cell 1
              have z2 : wr.cell? ⟨w1.heap.size, 2, none⟩ = some (.int .i64 r.l) := hri.cell 2
              have z3 : wr.cell? ⟨w1.heap.size, 3, none⟩ = some (.int .i64 r.n) := hri.cell 3
              have HO : Hid (Own etE wr (w1.heap.size + 1) (.slice aol r.es.length capl) r.es) := by rw [hlf] at hO; exact hO
              subst hlf
              clear hO
              have hob3 := hob2.keep hK1i (fun e => e)
              obtain ⟨ao2, cap2, hvf, hcap2⟩ := hRO.form'
              rw [HRl.out] at hvf hcap2
              subst hvf
              have o4 : wr.cell? ⟨w.heap.size + 2, 4, none⟩ = some (.slice ao2 k cap2) := hob3.cell 4
              have hcc2 : ∀ j u, ([.int .i64 r.p, .int .i64 r.s, .int .i64 r.l, .int .i64 r.n, .slice aol r.es.length capl])[j]? = some u → (wr.alloc (.cells #[.int .i64 r.p, .int .i64 r.s, .int .i64 r.l, .int .i64 r.n, .slice aol r.es.length capl] 87)).cell? ((⟨wr.heap.size, 0, none⟩ : Addr).add j) = some u := fun j u hu => newCells wr [.int .i64 r.p, .int .i64 r.s, .int .i64 r.l, .int .i64 r.n, .slice aol r.es.length capl] 87 j u hu
              have hone : ∀ u ∈ ([.int .i64 r.p, .int .i64 r.s, .int .i64 r.l, .int .i64 r.n, .slice aol r.es.length capl] : List Value), u.oneCell' = true := by
                intro u hu
                simp only [List.mem_cons, List.not_mem_nil, or_false] at hu
                rcases hu with rfl | rfl | rfl | rfl | rfl <;> rfl
              have hWW : KeptF (fun _ => False) wr (wr.alloc (.cells #[.int .i64 r.p, .int .i64 r.s, .int .i64 r.l, .int .i64 r.n, .slice aol r.es.length capl] 87)) := (KeptF.refl _ wr).alloc _
              have hWl := hWW.size
              have hown0 : (wr.alloc (.cells #[.int .i64 r.p, .int .i64 r.s, .int .i64 r.l, .int .i64 r.n, .slice aol r.es.length capl] 87)).ownsRow (w.heap.size + 3) 87 5 (.slice ao2 k cap2) k (flat rlE RS) := by
                have := (hRO.keep hK1i (fun _ _ e => e)).keep hWW (fun _ _ e => e)
                unfold Own at this
                rw [HRl.out] at this
                exact this
              have hlo := hob3.lt
              have hlri := hri.lt
              go_wp2_with (at_builtin; refine wpList_append_ownX rfl (.tmp 79) (.tmp 90) 28 rfl (w.heap.size + 3) 87 ir _ 5 56 Try.underlying28 hir hir0 hir1 hir2 rfl (by decide) (.slice ao2 k cap2) k (flat rlE RS) rfl ?own ⟨wr.heap.size, 0, none⟩ 1 1 [.int .i64 r.p, .int .i64 r.s, .int .i64 r.l, .int .i64 r.n, .slice aol r.es.length capl] rfl ?len ?cells ?one ?b1 ?b2 ?hb ?k)
              case own => exact hown0
              case len => rfl
              case cells => exact hcc2
              case one => exact hone
              case b1 => unfold maxLen; omega
              case b2 => omega
              case hb => exact Nat.le_trans (by omega) hWl
              case k =>
                intro v3 w2 hown2 hgr2 hfr2
                have hvb : ∀ g, (Value.slice ao2 k cap2).ownBlock = some g → w.heap.size + 3 ≤ g ∧ g < w1.heap.size := fun g hg => hRO.lt hg
                have hK2 : KeptF (fun g => (Value.slice ao2 k cap2).ownBlock = some g) wr w2 := (hWW.weaken (fun _ _ e => e.elim)).trans (KeptF.of_grown hgr2 (fun k h _ => h))
                have hK12 : KeptF (fun g => (Value.slice ao2 k cap2).ownBlock = some g) w1 w2 := (hK1i.weaken (fun _ _ e => e.elim)).trans hK2
                have hob4 := hob3.keep hK2 (fun e => by have := (hvb _ e).1; omega)
                have o4b : w2.cell? ⟨w.heap.size + 2, 4, none⟩ = some (.slice ao2 k cap2) := hob4.cell 4
                have o4f : w2.frozen? ⟨w.heap.size + 2, 4, none⟩ = false := hob4.frozen 4
                have hO2 : Own rlE w2 (w.heap.size + 3) v3 (RS ++ [⟨r, aol, r.es.length, capl⟩]) := Own.snoc (by rw [HRl.out]; exact hown2)
                have hO2lt : ∀ g, v3.ownBlock = some g → w.heap.size + 3 ≤ g := fun g hg => (hO2.lt hg).1
                have hfr : ∀ g, v3.ownBlock = some g → (Value.slice ao2 k cap2).ownBlock = some g ∨ wr.heap.size ≤ g := fun g hg => by
                  rcases hfr2 g hg with h1 | h1
                  · exact .inl h1
                  · exact .inr (by omega)
                have hKA2 : KeptF (fun i => i = w.heap.size + 2) wA w2 := hK.trans' hK12 (fun i hi e => by have := hvA i e; omega)
                have hv3A : ∀ g, v3.ownBlock = some g → wA.heap.size ≤ g := fun g hg => by
                  rcases hfr g hg with h1 | h1
                  · exact hvA g h1
                  · have := hK.size; omega
                have HE2 : Hid (∀ x ∈ RS ++ [(⟨r, aol, r.es.length, capl⟩ : RuleS)], Own etE w2 (w.heap.size + 3) x.ev x.r.es ∧ ∀ g, x.ev.ownBlock = some g → wA.heap.size ≤ g ∧ v3.ownBlock ≠ some g) := fun x hx => by
                  rcases List.mem_append.1 hx with hx | hx
                  · obtain ⟨h1, h2⟩ := hEm x hx
                    refine ⟨h1.keep hK12 (fun g hg e => (h2 g hg).2 e), fun g hg => ⟨(h2 g hg).1, fun e => ?_⟩⟩
                    rcases hfr g e with h3 | h3
                    · exact (h2 g hg).2 h3
                    · have := (h1.lt hg).2; omega
                  · simp at hx
                    subst hx
                    have h1 : Own etE wr (w1.heap.size + 1) (.slice aol r.es.length capl) r.es := HO.out
                    refine ⟨(h1.keep hK2 (fun g hg e => by have := (h1.lt hg).1; have := (hvb g e).2; omega)).mono (by omega), fun g hg => ⟨by have := (h1.lt hg).1; have := hK.size; omega, fun e => ?_⟩⟩
                    rcases hfr g e with h3 | h3
                    · have := (h1.lt hg).1; have := (hvb g h3).2; omega
                    · have := (h1.lt hg).2; omega
                obtain ⟨ao3, cap3, hv3, hcap3⟩ := hO2.form'
                have hl1 : (RS ++ [(⟨r, aol, r.es.length, capl⟩ : RuleS)]).length = k + 1 := by rw [List.length_append, HRl.out]; rfl
                rw [hl1] at hv3
                subst hv3
                clear hl1 hown2 hgr2 hfr2 hown0 hcc2 hone hWW z0 z1 z2 z3 r4 o4 hEm hRO
                go_wp2
                go_roundw
                case rel =>
                  have ks : ∀ W : World, KeptF (fun i => i = w.heap.size + 2) W (W.setCell ⟨w.heap.size + 2, 4, none⟩ (.slice ao3 (k + 1) cap3)) := fun W => (KeptF.refl (fun i => i = w.heap.size + 2) W).setCell (p := ⟨w.heap.size + 2, 4, none⟩) (.inl rfl) _
                  refine ⟨k + 1, _, RS ++ [⟨r, aol, r.es.length, capl⟩], by go_num, hlt, hob4.set 4 _, hO2.keep (ks w2) (fun g hg e => by have := hO2lt g hg; omega), ?_, ?_, hKA2.setCell (p := ⟨w.heap.size + 2, 4, none⟩) (.inl rfl) _, hv3A⟩
                  · rw [List.map_append, Hmap.out, take_snoc Hr.out]; rfl
                  · intro x hx
                    obtain ⟨h1, h2⟩ := HE2.out x hx
                    exact ⟨h1.keep (ks w2) (fun g hg e => by have := (h1.lt hg).1; omega), h2⟩
                case measure => simp [intOf]; omega
        · have hke : k = m.rules.length := by omega
          subst hke
          rw [List.take_length] at hmap
          obtain ⟨wB, hwB⟩ : ∃ wB, wB = w1 := ⟨_, rfl⟩
          subst hwB
          have hob := hob2
          have hL := hL.keep hK (fun g hg e => by have := (hL.lt hg).1; omega)
          have hmb := hm1
          have hrb := hrA.keep hK (by omega)
          have hbA := hbw
          have hzA := hsz
          have hEm3 : ∀ x ∈ RS, Own etE wB (w.heap.size + 3) x.ev x.r.es := fun x hx => (hEm x hx).1
          clear hEm
          clear hob2 hm1 hrA hmA hbw hsz hbwA hszA hK hKA hvA hk hobA
          go_wp2
          clear c0 hlt
          go_loopw [11] (fun s wr => ∃ (k : Nat) (v : Value), s = .int .i64 k ∧ k ≤ m.starts.length ∧ Blk wr (w.heap.size + 2) #[.int .i64 m.procs, .int .i64 m.states, .int .i64 m.loads, v1, v2, v] 31 ∧ Own stE wr (w.heap.size + 3) v (m.starts.take k) ∧ KeptF (fun i => i = w.heap.size + 2) wB wr ∧ (∀ g, v.ownBlock = some g → wB.heap.size ≤ g)) (fun s _ => m.starts.length - (intOf s).toNat)
          case atStart => exact ⟨0, _, rfl, Nat.zero_le _, hob, by rw [List.take_zero]; exact Own.nil _ _ _, KeptF.refl _ _, fun g hg => by cases hg⟩
          case round =>
            obtain ⟨k, v, rfl, hk, hob2, hO, hK, hvA⟩ := hrel
            have hbw : Below w.heap.size w wr := hbA.trans (KeptF.below hK hbA.size (fun i hi => by omega))
            have hsz : w.heap.size + 3 ≤ wr.heap.size := Nat.le_trans hzA hK.size
            have c0 : wr.cell? ⟨w.heap.size, 5, none⟩ = some (.slice aos m.starts.length caps) := (hK.cell (p := ⟨w.heap.size, 5, none⟩) (show w.heap.size < wB.heap.size by omega) (by simp)).trans (hmb.cell 5)
            by_cases hlt : k < m.starts.length
            · obtain ⟨x, hx⟩ := get_of_lt hlt
              obtain ⟨b, off, hao, hbB, hc⟩ := RowsAt.at_ (h.keep (hbw.mono hB)).starts hx
              subst hao
              have x0 := hc 0 (.int .i64 x.p) rfl
              have x1 := hc 1 (.int .i64 x.t) rfl
              have x2 := hc 2 (.int .i64 x.l) rfl
              simp only [Nat.add_zero] at x0
              have Hx : Hid (m.starts[k]? = some x) := hx
              have hlk := take_len hlt
              have Hlk : Hid ((m.starts.take k).length = k) := hlk
              obtain ⟨ao2, cap2, hvf, hcap2⟩ := hO.form'
              rw [hlk] at hvf hcap2
              subst hvf
              have o5 : wr.cell? ⟨w.heap.size + 2, 5, none⟩ = some (.slice ao2 k cap2) := hob2.cell 5
              have hcc := newCells (wr.alloc (.cells #[.int .i64 x.p, .int .i64 x.t, .int .i64 x.l] 89)) [.int .i64 x.p, .int .i64 x.t, .int .i64 x.l] 90
              rw [World.size_alloc] at hcc
              have hcc2 : ∀ j u, ([.int .i64 x.p, .int .i64 x.t, .int .i64 x.l])[j]? = some u → ((wr.alloc (.cells #[.int .i64 x.p, .int .i64 x.t, .int .i64 x.l] 89)).alloc (.cells #[.int .i64 x.p, .int .i64 x.t, .int .i64 x.l] 90)).cell? ((⟨wr.heap.size + 1, 0, none⟩ : Addr).add j) = some u := fun j u hu => hcc j u hu
              have hWW : KeptF (fun _ => False) wr ((wr.alloc (.cells #[.int .i64 x.p, .int .i64 x.t, .int .i64 x.l] 89)).alloc (.cells #[.int .i64 x.p, .int .i64 x.t, .int .i64 x.l] 90)) := ((KeptF.refl _ wr).alloc _).alloc _
              have hWl := hWW.size
              have hown0 : ((wr.alloc (.cells #[.int .i64 x.p, .int .i64 x.t, .int .i64 x.l] 89)).alloc (.cells #[.int .i64 x.p, .int .i64 x.t, .int .i64 x.l] 90)).ownsRow (w.heap.size + 3) 90 3 (.slice ao2 k cap2) k (flat stE (m.starts.take k)) := by
                have := hO.keep hWW (fun _ _ e => e)
                unfold Own at this
                rw [Hlk.out] at this
                exact this
              have hlb : b < wr.heap.size := block_lt_of_cell x0
              have hlo := hob2.lt
              clear hlk hx hc hcc
              go_wp2_with (at_builtin; refine wpList_append_ownX rfl (.tmp 106) (.tmp 114) 29 rfl (w.heap.size + 3) 90 ist _ 3 24 Try.underlying29 hist hist0 hist1 hist2 rfl (by decide) (.slice ao2 k cap2) k (flat stE (m.starts.take k)) rfl ?own ⟨wr.heap.size + 1, 0, none⟩ 1 1 [.int .i64 x.p, .int .i64 x.t, .int .i64 x.l] rfl ?len ?cells ?one ?b1 ?b2 ?hb ?k)
              case own => exact hown0
              case len => rfl
              case cells => exact hcc2
              case one => exact three_one
              case b1 => unfold maxLen; omega
              case b2 => omega
              case hb => exact Nat.le_trans hsz hWl
              case k =>
                intro v2 w2 hown2 hgr2 hfr2
                have hOb : ∀ g, (Value.slice ao2 k cap2).ownBlock = some g → w.heap.size + 3 ≤ g := fun g hg => (hO.lt hg).1
                have hK2 : KeptF (fun g => (Value.slice ao2 k cap2).ownBlock = some g) wr w2 := (hWW.weaken (fun _ _ e => e.elim)).trans (KeptF.of_grown hgr2 (fun k h _ => h))
                have hob3 := hob2.keep hK2 (fun e => by have := hOb _ e; omega)
                have o5b : w2.cell? ⟨w.heap.size + 2, 5, none⟩ = some (.slice ao2 k cap2) := hob3.cell 5
                have o5f : w2.frozen? ⟨w.heap.size + 2, 5, none⟩ = false := hob3.frozen 5
                have hO2 : Own stE w2 (w.heap.size + 3) v2 (m.starts.take (k + 1)) := by
                  rw [take_snoc Hx.out]
                  exact Own.snoc (by rw [Hlk.out]; exact hown2)
                have hKA : KeptF (fun i => i = w.heap.size + 2) wB w2 := hK.trans' hK2 (fun i hi e => by have := hvA i e; omega)
                have hv2A : ∀ g, v2.ownBlock = some g → wB.heap.size ≤ g := fun g hg => by
                  rcases hfr2 g hg with h1 | h1
                  · exact hvA g h1
                  · have := hK.size; omega
                have hO2lt : ∀ g, v2.ownBlock = some g → w.heap.size + 3 ≤ g := fun g hg => (hO2.lt hg).1
                obtain ⟨ao3, cap3, hv3, hcap3⟩ := hO2.form'
                have hl1 : (m.starts.take (k + 1)).length = k + 1 := by rw [List.length_take]; omega
                rw [hl1] at hv3
                subst hv3
                clear hl1
                clear hown2 hgr2 hfr2 hown0 hcc2 hWW hO x0 x1 x2 c0 o5
                go_wp2
                go_roundw
                case rel =>
                  refine ⟨k + 1, _, by go_num, hlt, hob3.set 5 _, hO2.keep ((KeptF.refl (fun i => i = w.heap.size + 2) w2).setCell (p := ⟨w.heap.size + 2, 5, none⟩) (.inl rfl) _) (fun g hg e => by have := hO2lt g hg; omega), hKA.setCell (p := ⟨w.heap.size + 2, 5, none⟩) (.inl rfl) _, hv2A⟩
                case measure => simp [intOf]; omega
            · have hke : k = m.starts.length := by omega
              subst hke
              rw [List.take_length] at hO
              have hO3 := hO
              have k6 : ∀ u0 u1 u2 u3 u4 u5, KeptF (fun i => i = w.heap.size + 1) wr ((((((wr.setCell ⟨w.heap.size + 1, 0, none⟩ u0).setCell ⟨w.heap.size + 1, 1, none⟩ u1).setCell ⟨w.heap.size + 1, 2, none⟩ u2).setCell ⟨w.heap.size + 1, 3, none⟩ u3).setCell ⟨w.heap.size + 1, 4, none⟩ u4).setCell ⟨w.heap.size + 1, 5, none⟩ u5) := fun u0 u1 u2 u3 u4 u5 =>
                ((((((KeptF.refl (fun i => i = w.heap.size + 1) wr).setCell (p := ⟨w.heap.size + 1, 0, none⟩) (.inl rfl) u0).setCell (p := ⟨w.heap.size + 1, 1, none⟩) (.inl rfl) u1).setCell (p := ⟨w.heap.size + 1, 2, none⟩) (.inl rfl) u2).setCell (p := ⟨w.heap.size + 1, 3, none⟩) (.inl rfl) u3).setCell (p := ⟨w.heap.size + 1, 4, none⟩) (.inl rfl) u4).setCell (p := ⟨w.heap.size + 1, 5, none⟩) (.inl rfl) u5
              have hrb3 := hrb.keep hK (by omega)
              have q0 : wr.cell? ⟨w.heap.size + 1, 0, none⟩ = some (.int .i64 0) := hrb3.cell 0
              have q1 : wr.cell? ⟨w.heap.size + 1, 1, none⟩ = some (.int .i64 0) := hrb3.cell 1
              have q2 : wr.cell? ⟨w.heap.size + 1, 2, none⟩ = some (.int .i64 0) := hrb3.cell 2
              have q3 : wr.cell? ⟨w.heap.size + 1, 3, none⟩ = some (.slice none 0 0) := hrb3.cell 3
              have q4 : wr.cell? ⟨w.heap.size + 1, 4, none⟩ = some (.slice none 0 0) := hrb3.cell 4
              have q5 : wr.cell? ⟨w.heap.size + 1, 5, none⟩ = some (.slice none 0 0) := hrb3.cell 5
              have qf := hrb3.frozen
              have p0 : wr.cell? ⟨w.heap.size + 2, 0, none⟩ = some (.int .i64 m.procs) := hob2.cell 0
              have p1 : wr.cell? ⟨w.heap.size + 2, 1, none⟩ = some (.int .i64 m.states) := hob2.cell 1
              have p2 : wr.cell? ⟨w.heap.size + 2, 2, none⟩ = some (.int .i64 m.loads) := hob2.cell 2
              have p3 : wr.cell? ⟨w.heap.size + 2, 3, none⟩ = some v1 := hob2.cell 3
              have p4 : wr.cell? ⟨w.heap.size + 2, 4, none⟩ = some v2 := hob2.cell 4
              have p5 : wr.cell? ⟨w.heap.size + 2, 5, none⟩ = some v := hob2.cell 5
              obtain ⟨ga1, gc1, hf1, _⟩ := hL.form'
              obtain ⟨ga2, gc2, hf2, _⟩ := hRO.form'
              obtain ⟨ga3, gc3, hf3, _⟩ := hO.form'
              have HL : Hid (Own lkE wB (w.heap.size + 3) v1 m.links) := hL
              have HR : Hid (Own rlE wB (w.heap.size + 3) v2 RS) := hRO
              have HO : Hid (Own stE wr (w.heap.size + 3) v m.starts) := hO
              subst hf1 hf2 hf3
              clear hL hRO hO hO3
              go_wp2
              have k7 := k6 (.int .i64 m.procs) (.int .i64 m.states) (.int .i64 m.loads) (.slice ga1 m.links.length gc1) (.slice ga2 RS.length gc2) (.slice ga3 m.starts.length gc3)
              refine bodyPost_ret (v := .agg #[.int .i64 m.procs, .int .i64 m.states, .int .i64 m.loads, .slice ga1 m.links.length gc1, .slice ga2 RS.length gc2, .slice ga3 m.starts.length gc3]) (by simp [results, Try.results10, go_sem, q0, q1, q2, q3, q4, q5]) rfl ⟨_, _, _, RS.map RuleS.v, rfl, ⟨?_, ⟨?_, ?_⟩, ?_, ?_⟩, ?_⟩
              · exact ((HL.out.keep hK (fun g hg e => by have := (HL.out.lt hg).1; omega)).keep k7 (fun g hg e => by have := (HL.out.lt hg).1; omega)).rows
              · exact RowsAt.map (f := RuleS.v) ((HR.out.keep hK (fun g hg e => by have := (HR.out.lt hg).1; omega)).keep k7 (fun g hg e => by have := (HR.out.lt hg).1; omega)).rows
              · intro z hz
                obtain ⟨y, hy, rfl⟩ := List.mem_map.1 hz
                have h1 := hEm3 y hy
                exact ((h1.keep hK (fun g hg e => by have := (h1.lt hg).1; omega)).keep k7 (fun g hg e => by have := (h1.lt hg).1; omega)).rows
              · exact (HO.out.keep k7 (fun g hg e => by have := (HO.out.lt hg).1; omega)).rows
              · rw [List.map_map]; exact hmap
              · exact hbw.trans (KeptF.below k7 hbw.size (fun i hi => by omega))

end Go.Proofs.Ytkobkilfbbalaaa

namespace Go.Proofs.Ytkobkilfbbalaaa
open Go.RowKit Go.Sort Go.Maps

theorem num_any (x : Int) (w : World) : Calls Try.prog 13 #[.int .i64 x] w fun e w' => e = .returned (.int .i64 x) ∧ w' = w := by
  go_enter Try.func13, Try.ntmps13
  go_wp2
  go_ret
  exact ⟨rfl, rfl⟩

set_option maxRecDepth 100000 in
set_option maxHeartbeats 4000000 in
theorem checks_any (w : World) (m : Mdl) (lv rv sv : Value) (R : List RuleV) (en : Int) (h : ModelAt w w.heap.size lv rv sv m R)
    (b1 : m.links.length * 24 ≤ 140737488351232) (b2 : m.rules.length * 56 ≤ 140737488351232) (b3 : m.starts.length * 24 ≤ 140737488351232) (b4 : ∀ r ∈ m.rules, r.es.length * 24 ≤ 140737488351232) :
    Calls Try.prog 3 #[.agg #[.int .i64 m.procs, .int .i64 m.states, .int .i64 m.loads, lv, rv, sv], .int .i64 en] w fun e w' => e = .returned (.bool true) ∧ Below w.heap.size w w' := by
  have hne : ∀ r ∈ m.rules, r.es.length ≤ 5864062014634 := fun r hr => by have := b4 r hr; omega
  obtain ⟨W0, hW0⟩ : ∃ W0, W0 = w.alloc (.cells #[.int .i64 m.procs, .int .i64 m.states, .int .i64 m.loads, lv, rv, sv] 26) := ⟨_, rfl⟩
  have HW0 : Hid (W0 = w.alloc (.cells #[.int .i64 m.procs, .int .i64 m.states, .int .i64 m.loads, lv, rv, sv] 26)) := hW0
  have hB0 : Below w.heap.size w W0 := by rw [hW0]; exact (Below.refl _ _).alloc (Nat.le_refl _) _
  have hmb : Blk W0 w.heap.size #[.int .i64 m.procs, .int .i64 m.states, .int .i64 m.loads, lv, rv, sv] 26 := by rw [hW0]; exact heap_alloc_new w _
  have k0 := Gr.cells (v := .int .i64 m.procs) (hmb.cell 0)
  have k1 := Gr.cells (v := .int .i64 m.states) (hmb.cell 1)
  have k2 := Gr.cells (v := .int .i64 m.loads) (hmb.cell 2)
  have k3 := Gr.cells (v := lv) (hmb.cell 3)
  have k4 := Gr.cells (v := rv) (hmb.cell 4)
  have k5 := Gr.cells (v := sv) (hmb.cell 5)
  have hg0 := Gr.refl W0
  have hlm := hmb.lt
  have hmade := made_any m lv rv sv R w.heap.size W0 (h.keep hB0) hB0.size b1 b2 b3 b4
  clear hW0
  go_enter Try.func3, Try.ntmps3
  go_upto_region 1 with fail
  rw [← HW0.out]
  clear HW0
  go_wp2_with fail
  refine hmade.mono ?_
  rintro e1 w1 ⟨lv', rv', sv', R', rfl, hM', g1⟩
  clear hmade
  obtain ⟨a1, c1, hf1, _⟩ := RowsAt.form hM'.links
  obtain ⟨a2, c2, hf2, _⟩ := RowsAt.form hM'.rules.1
  obtain ⟨a3, c3, hf3, _⟩ := RowsAt.form hM'.starts
  subst hf1 hf2 hf3
  have hg1 : Gr W0 (w1.alloc (.cells #[.int .i64 m.procs, .int .i64 m.states, .int .i64 m.loads, (.slice a1 m.links.length c1), (.slice a2 R'.length c2), (.slice a3 m.starts.length c3)] 31)) := Gr.alloc (W0 := W0) g1 _
  have hbA : Below w1.heap.size w1 (w1.alloc (.cells #[.int .i64 m.procs, .int .i64 m.states, .int .i64 m.loads, (.slice a1 m.links.length c1), (.slice a2 R'.length c2), (.slice a3 m.starts.length c3)] 31)) := (Below.refl _ _).alloc (Nat.le_refl _) _
  have hck := check_any m (.slice a1 m.links.length c1) (.slice a2 R'.length c2) (.slice a3 m.starts.length c3) R' w1.heap.size en (w1.alloc (.cells #[.int .i64 m.procs, .int .i64 m.states, .int .i64 m.loads, (.slice a1 m.links.length c1), (.slice a2 R'.length c2), (.slice a3 m.starts.length c3)] 31)) (hM'.keep hbA) hbA.size hne
  go_wp2_with fail
  refine hck.mono ?_
  rintro e2 w2 ⟨rfl, g2⟩
  clear hck
  have hg2 : Gr W0 w2 := Gr.trans hg1 g2
  have hbw2 : Below w.heap.size w w2 := Gr.below hg2 hB0
  have hrf := refCheck_any m lv rv sv R w.heap.size en w2 (h.keep hbw2) hbw2.size hne
  generalize answer m en = a at *
  go_wp2_with fail
  refine hrf.mono ?_
  rintro e3 w3 ⟨pv, rfl, g3, -⟩
  clear hrf
  have hbw3 : Below w.heap.size w w3 := hbw2.trans (g3.mono hbw2.size)
  have hnum := num_any a.1 w3
  go_wp2_with (go_at_call 13; refine hnum.mono ?_; rintro e4 w4 ⟨rfl, rfl⟩)
  go_ret
  exact ⟨rfl, hbw3⟩

end Go.Proofs.Ytkobkilfbbalaaa

namespace Go.Proofs.Ytkobkilfbbalaaa
open Go.ChangeShapes Go.WideShapes Go.ChangeAt Go.RowKit Go.Deep

theorem cellsI : Try.prog.cellsOf 3 = 1 := by kernel_rfl
theorem cellsLk : Try.prog.cellsOf 77 = 3 := by kernel_rfl
theorem cellsEt : Try.prog.cellsOf 84 = 3 := by kernel_rfl
theorem cellsSt : Try.prog.cellsOf 89 = 3 := by kernel_rfl
theorem cellsRl : Try.prog.cellsOf 81 = 5 := by kernel_rfl
theorem cellsMd : Try.prog.cellsOf 26 = 6 := by kernel_rfl
theorem cellsSl0 : Try.prog.cellsOf 79 = 1 := by kernel_rfl
theorem cellsSl1 : Try.prog.cellsOf 22 = 1 := by kernel_rfl
theorem cellsSl2 : Try.prog.cellsOf 23 = 1 := by kernel_rfl
theorem cellsSl3 : Try.prog.cellsOf 24 = 1 := by kernel_rfl
theorem bytesLk : Try.prog.bytesOf 77 = 24 := by kernel_rfl
theorem bytesEt : Try.prog.bytesOf 84 = 24 := by kernel_rfl
theorem bytesSt : Try.prog.bytesOf 89 = 24 := by kernel_rfl
theorem bytesRl : Try.prog.bytesOf 81 = 56 := by kernel_rfl

theorem list_of_fnR {α : Type} (n : Nat) (p : Nat → α → Prop) (h : ∀ i, i < n → ∃ x, p i x) : ∃ l : List α, l.length = n ∧ ∀ (j : Nat) (x : α), l[j]? = some x → p j x := by
  induction n with
  | zero => exact ⟨[], rfl, fun j x hx => by simp at hx⟩
  | succ n ih =>
    obtain ⟨l, h1, h2⟩ := ih (fun i hi => h i (by omega))
    obtain ⟨y, hy⟩ := h n (by omega)
    refine ⟨l ++ [y], by simp [h1], fun j x hx => ?_⟩
    by_cases hj : j < l.length
    · rw [List.getElem?_append_left hj] at hx; exact h2 j x hx
    · rw [List.getElem?_append_right (by omega)] at hx
      have : j = n := by
        have := get_lt hx
        simp at this; omega
      subst this
      have e : j - l.length = 0 := by omega
      rw [e] at hx
      simp at hx
      rw [← hx]; exact hy

theorem three {cs : List Value} (h : cs.length = 3) : ∃ a b c, cs = [a, b, c] := by
  match cs, h with
  | [a, b, c], _ => exact ⟨a, b, c, rfl⟩
theorem five {cs : List Value} (h : cs.length = 5) : ∃ a b c d e, cs = [a, b, c, d, e] := by
  match cs, h with
  | [a, b, c, d, e], _ => exact ⟨a, b, c, d, e, rfl⟩
theorem sixR {cs : List Value} (h : cs.length = 6) : ∃ a b c d e f, cs = [a, b, c, d, e, f] := by
  match cs, h with
  | [a, b, c, d, e, f], _ => exact ⟨a, b, c, d, e, f, rfl⟩

section
variable {H : Type} {enc : TypeId × Value → H} {w : World} {spare : Nat → Bool} {held : Bool}

theorem link_cells {fuel : Nat} {cs : List Value} {x : DataW H × List MemPlace} (h : DataW.trod enc Try.prog w 0 spare held fuel 77 cs = some x) : ∃ a : MLink, cs = linkC a := by
  obtain ⟨y0, y1, y2, n, _, hl, t0, t1, t2⟩ := trod_struct3 Try.underlying77 h
  rw [cellsLk] at hl
  obtain ⟨a, b, c, rfl⟩ := three hl
  simp only [cellsI] at t0 t1 t2
  obtain ⟨i0, e0, _, _⟩ := DataW.trod_int Try.underlying3 t0
  obtain ⟨i1, e1, _, _⟩ := DataW.trod_int Try.underlying3 t1
  obtain ⟨i2, e2, _, _⟩ := DataW.trod_int Try.underlying3 t2
  simp at e0 e1 e2
  subst e0 e1 e2
  exact ⟨⟨i0, i1, i2⟩, rfl⟩
theorem emit_cells {fuel : Nat} {cs : List Value} {x : DataW H × List MemPlace} (h : DataW.trod enc Try.prog w 0 spare held fuel 84 cs = some x) : ∃ a : MEmit, cs = emitC a := by
  obtain ⟨y0, y1, y2, n, _, hl, t0, t1, t2⟩ := trod_struct3 Try.underlying84 h
  rw [cellsEt] at hl
  obtain ⟨a, b, c, rfl⟩ := three hl
  simp only [cellsI] at t0 t1 t2
  obtain ⟨i0, e0, _, _⟩ := DataW.trod_int Try.underlying3 t0
  obtain ⟨i1, e1, _, _⟩ := DataW.trod_int Try.underlying3 t1
  obtain ⟨i2, e2, _, _⟩ := DataW.trod_int Try.underlying3 t2
  simp at e0 e1 e2
  subst e0 e1 e2
  exact ⟨⟨i0, i1, i2⟩, rfl⟩
theorem start_cells {fuel : Nat} {cs : List Value} {x : DataW H × List MemPlace} (h : DataW.trod enc Try.prog w 0 spare held fuel 89 cs = some x) : ∃ a : MStart, cs = startC a := by
  obtain ⟨y0, y1, y2, n, _, hl, t0, t1, t2⟩ := trod_struct3 Try.underlying89 h
  rw [cellsSt] at hl
  obtain ⟨a, b, c, rfl⟩ := three hl
  simp only [cellsI] at t0 t1 t2
  obtain ⟨i0, e0, _, _⟩ := DataW.trod_int Try.underlying3 t0
  obtain ⟨i1, e1, _, _⟩ := DataW.trod_int Try.underlying3 t1
  obtain ⟨i2, e2, _, _⟩ := DataW.trod_int Try.underlying3 t2
  simp at e0 e1 e2
  subst e0 e1 e2
  exact ⟨⟨i0, i1, i2⟩, rfl⟩

/-- a row, out of its reading -/
theorem rows_open {α : Type} {t e : TypeId} {sz : Nat} (en : α → List Value) (hpos : 0 < sz) (hlen : ∀ a, (en a).length = sz) (ht : Try.prog.underlying t = some (.slice e)) (hc : Try.prog.cellsOf e = sz) (Q : DataW H → α → Prop)
    (hel : ∀ (fuel : Nat) (cs : List Value) (y : DataW H × List MemPlace), DataW.trod enc Try.prog w 0 spare held fuel e cs = some y → ∃ a, cs = en a ∧ Q y.1 a)
    {fuel : Nat} {cs : List Value} {x : DataW H × List MemPlace} (h : DataW.trod enc Try.prog w 0 spare held fuel t cs = some x) :
    ∃ (v : Value) (l : List α), cs = [v] ∧ RowsAt sz en w w.heap.size v l ∧ (l = [] ∨ ∃ elems sp, x.1 = .slice elems sp ∧ elems.length = l.length ∧ ∀ a ∈ l, ∃ d ∈ elems, Q d a) := by
  rcases open_slice ht h with ⟨hcs, hx⟩ | ⟨a, len, cap, m, n, D, Pl, hcs, _, hl, hm, hmm, hx, hq⟩
  · exact ⟨_, [], hcs, ⟨none, 0, rfl, Nat.le_refl _, fun h => absurd rfl h⟩, .inl rfl⟩
  · have hlm : len ≤ m := by rw [hmm]; split <;> omega
    obtain ⟨ab, ao, asp⟩ := a
    rw [hc] at hq
    obtain ⟨l, hll, hlp⟩ := list_of_fnR (α := α) len (fun i o => w.cells? 0 ((⟨ab, ao, asp⟩ : Addr).add (i * sz)) sz = some (en o) ∧ Q (D i) o) (fun i hi => by
      obtain ⟨cs', c1, c2⟩ := hq i (by omega)
      obtain ⟨o, ho, hQ⟩ := hel _ _ _ c2
      exact ⟨o, by rw [c1, ho], hQ⟩)
    refine ⟨_, l, hcs, ⟨_, _, by rw [hll], by omega, fun hne => ?_⟩, .inr ⟨(List.range len).map D, _, by rw [hx], by simp [hll], fun o ho => ?_⟩⟩
    · have hp0 : 0 < l.length := List.length_pos_iff.2 hne
      obtain ⟨o0, ho0⟩ := get_of_lt hp0
      have c00 := (World.cells?_some (hlp 0 o0 ho0).1).2.2 0 hpos
      have hu : ∃ u, (en o0)[0]? = some u := ⟨_, List.getElem?_eq_getElem (by rw [hlen]; exact hpos)⟩
      obtain ⟨u, hu⟩ := hu
      have hspot : asp = none := by
        have := World.cell?_spot (c00.trans hu)
        simpa [Addr.add] using this
      subst hspot
      refine ⟨ab, ao, rfl, ?_, fun j o k u' ho hu' => ?_⟩
      · refine block_lt_of_cell (a := (⟨ab, ao, none⟩ : Addr)) (v := u) ?_
        rw [hu] at c00
        simpa [Addr.add] using c00
      · have hk : k < sz := by have := get_lt hu'; rw [hlen] at this; exact this
        have hcc := (World.cells?_some (hlp j o ho).1).2.2 k hk
        rw [add_plain, add_plain] at hcc
        rw [hcc]; exact hu'
    · obtain ⟨j, hj⟩ := List.getElem?_of_mem ho
      have hjl := get_lt hj
      exact ⟨D j, List.mem_map_of_mem (List.mem_range.2 (by omega)), (hlp j o hj).2⟩

theorem trod_struct5 {t : TypeId} {f0 f1 f2 f3 f4 : Field} {fuel : Nat} {cs : List Value} {x : DataW H × List MemPlace} (ht : Try.prog.underlying t = some (.struct #[f0, f1, f2, f3, f4])) (h : DataW.trod enc Try.prog w 0 spare held fuel t cs = some x) :
    ∃ y0 y1 y2 y3 y4 n, x.1 = .agg [y0.1, y1.1, y2.1, y3.1, y4.1] ∧ cs.length = Try.prog.cellsOf t ∧ DataW.trod enc Try.prog w 0 spare held n f0.type ((cs.drop f0.offset).take (Try.prog.cellsOf f0.type)) = some y0 ∧
      DataW.trod enc Try.prog w 0 spare held n f1.type ((cs.drop f1.offset).take (Try.prog.cellsOf f1.type)) = some y1 ∧ DataW.trod enc Try.prog w 0 spare held n f2.type ((cs.drop f2.offset).take (Try.prog.cellsOf f2.type)) = some y2 ∧
      DataW.trod enc Try.prog w 0 spare held n f3.type ((cs.drop f3.offset).take (Try.prog.cellsOf f3.type)) = some y3 ∧ DataW.trod enc Try.prog w 0 spare held n f4.type ((cs.drop f4.offset).take (Try.prog.cellsOf f4.type)) = some y4 := by
  obtain ⟨xs, n, _, rfl, hl, hlen, hf⟩ := DataW.trod_struct ht h
  match xs, hlen with
  | [y0, y1, y2, y3, y4], _ => exact ⟨y0, y1, y2, y3, y4, n, by simp, hl, by simpa using hf 0 f0 rfl, by simpa using hf 1 f1 rfl, by simpa using hf 2 f2 rfl, by simpa using hf 3 f3 rfl, by simpa using hf 4 f4 rfl⟩
theorem trod_struct6 {t : TypeId} {f0 f1 f2 f3 f4 f5 : Field} {fuel : Nat} {cs : List Value} {x : DataW H × List MemPlace} (ht : Try.prog.underlying t = some (.struct #[f0, f1, f2, f3, f4, f5])) (h : DataW.trod enc Try.prog w 0 spare held fuel t cs = some x) :
    ∃ y0 y1 y2 y3 y4 y5 n, x.1 = .agg [y0.1, y1.1, y2.1, y3.1, y4.1, y5.1] ∧ cs.length = Try.prog.cellsOf t ∧ DataW.trod enc Try.prog w 0 spare held n f0.type ((cs.drop f0.offset).take (Try.prog.cellsOf f0.type)) = some y0 ∧
      DataW.trod enc Try.prog w 0 spare held n f1.type ((cs.drop f1.offset).take (Try.prog.cellsOf f1.type)) = some y1 ∧ DataW.trod enc Try.prog w 0 spare held n f2.type ((cs.drop f2.offset).take (Try.prog.cellsOf f2.type)) = some y2 ∧
      DataW.trod enc Try.prog w 0 spare held n f3.type ((cs.drop f3.offset).take (Try.prog.cellsOf f3.type)) = some y3 ∧ DataW.trod enc Try.prog w 0 spare held n f4.type ((cs.drop f4.offset).take (Try.prog.cellsOf f4.type)) = some y4 ∧
      DataW.trod enc Try.prog w 0 spare held n f5.type ((cs.drop f5.offset).take (Try.prog.cellsOf f5.type)) = some y5 := by
  obtain ⟨xs, n, _, rfl, hl, hlen, hf⟩ := DataW.trod_struct ht h
  match xs, hlen with
  | [y0, y1, y2, y3, y4, y5], _ => exact ⟨y0, y1, y2, y3, y4, y5, n, by simp, hl, by simpa using hf 0 f0 rfl, by simpa using hf 1 f1 rfl, by simpa using hf 2 f2 rfl, by simpa using hf 3 f3 rfl, by simpa using hf 4 f4 rfl, by simpa using hf 5 f5 rfl⟩

/-- no weight of a reading passes the limit -/
def Small (t : TypeId) (d : DataW H) : Prop := ∀ n ∈ d.weights Try.prog t, n ≤ reachBytes

theorem Small.slice {t e : TypeId} {elems sp : List (DataW H)} (ht : Try.prog.underlying t = some (.slice e)) (h : Small t (.slice elems sp)) : elems.length * Try.prog.bytesOf e ≤ reachBytes ∧ ∀ d ∈ elems, Small e d := by
  unfold Small at h
  simp only [DataW.weights, ht] at h
  refine ⟨?_, fun d hd n hn => h n ?_⟩
  · have := h _ (List.mem_cons_self ..)
    rw [Nat.add_mul] at this
    omega
  · refine List.mem_cons_of_mem _ (List.mem_append_left _ ?_)
    clear h
    induction elems with
    | nil => simp at hd
    | cons a l ih =>
      simp only [DataW.weightsAll, List.mem_append]
      rcases List.mem_cons.1 hd with rfl | hd
      · exact .inl hn
      · exact .inr (ih hd)
theorem weights_each {ts : List TypeId} {ds : List (DataW H)} {j : Nat} {t : TypeId} {d : DataW H} (ht : ts[j]? = some t) (hd : ds[j]? = some d) (h : ∀ n ∈ DataW.weightsEach Try.prog ts ds, n ≤ reachBytes) : Small t d := by
  intro n hn
  exact h n (DataW.weights_mem_each ht hd n hn)

theorem rule_cells {fuel : Nat} {cs : List Value} {x : DataW H × List MemPlace} (h : DataW.trod enc Try.prog w 0 spare held fuel 81 cs = some x) :
    ∃ a : RuleV, cs = ruleC a ∧ EmitsAt w w.heap.size a.ev a.r.es ∧ (Small 81 x.1 → a.r.es.length * 24 ≤ reachBytes) := by
  obtain ⟨y0, y1, y2, y3, y4, n, hx, hl, t0, t1, t2, t3, t4⟩ := trod_struct5 Try.underlying81 h
  rw [cellsRl] at hl
  obtain ⟨a, b, c, d, e, rfl⟩ := five hl
  simp only [cellsI, cellsSl0] at t0 t1 t2 t3 t4
  obtain ⟨i0, e0, _, _⟩ := DataW.trod_int Try.underlying3 t0
  obtain ⟨i1, e1, _, _⟩ := DataW.trod_int Try.underlying3 t1
  obtain ⟨i2, e2, _, _⟩ := DataW.trod_int Try.underlying3 t2
  obtain ⟨i3, e3, _, _⟩ := DataW.trod_int Try.underlying3 t3
  obtain ⟨v, l, e4, hR, hs⟩ := rows_open emitC (by omega) (fun _ => rfl) Try.underlying79 cellsEt (fun _ _ => True) (fun f cs y hy => by obtain ⟨o, ho⟩ := emit_cells hy; exact ⟨o, ho, trivial⟩) t4
  simp at e0 e1 e2 e3 e4
  subst e0 e1 e2 e3 e4
  refine ⟨⟨⟨i0, i1, i2, i3, l⟩, _⟩, rfl, hR, fun hS => ?_⟩
  rcases hs with rfl | ⟨elems, sp, hd, hel, _⟩
  · simp
  · rw [hx] at hS
    have h4 : Small 79 y4.1 := by
      unfold Small at hS
      simp only [DataW.weights, Try.underlying81] at hS
      exact weights_each (j := 4) rfl rfl hS
    rw [hd] at h4
    have := (h4.slice Try.underlying79).1
    rw [bytesEt, hel] at this
    exact this

theorem model_cells {fuel : Nat} {cs : List Value} {x : DataW H × List MemPlace} (h : DataW.trod enc Try.prog w 0 spare held fuel 26 cs = some x) (hS : Small 26 x.1) :
    ∃ (m : Mdl) (lv rv sv : Value) (R : List RuleV), cs = [.int .i64 m.procs, .int .i64 m.states, .int .i64 m.loads, lv, rv, sv] ∧ ModelAt w w.heap.size lv rv sv m R ∧ m.links.length * 24 ≤ reachBytes ∧ m.rules.length * 56 ≤ reachBytes ∧ m.starts.length * 24 ≤ reachBytes ∧ ∀ r ∈ m.rules, r.es.length * 24 ≤ reachBytes := by
  obtain ⟨y0, y1, y2, y3, y4, y5, n, hx, hl, t0, t1, t2, t3, t4, t5⟩ := trod_struct6 Try.underlying26 h
  rw [cellsMd] at hl
  obtain ⟨a, b, c, d, e, f, rfl⟩ := sixR hl
  simp only [cellsI, cellsSl1, cellsSl2, cellsSl3] at t0 t1 t2 t3 t4 t5
  obtain ⟨i0, e0, _, _⟩ := DataW.trod_int Try.underlying3 t0
  obtain ⟨i1, e1, _, _⟩ := DataW.trod_int Try.underlying3 t1
  obtain ⟨i2, e2, _, _⟩ := DataW.trod_int Try.underlying3 t2
  obtain ⟨lv, l, e3, hL, hsL⟩ := rows_open linkC (by omega) (fun _ => rfl) Try.underlying22 cellsLk (fun _ _ => True) (fun f cs y hy => by obtain ⟨o, ho⟩ := link_cells hy; exact ⟨o, ho, trivial⟩) t3
  obtain ⟨rv, R, e4, hR, hsR⟩ := rows_open ruleC (by omega) (fun _ => rfl) Try.underlying23 cellsRl (fun d a => EmitsAt w w.heap.size a.ev a.r.es ∧ (Small 81 d → a.r.es.length * 24 ≤ reachBytes)) (fun f cs y hy => rule_cells hy) t4
  obtain ⟨sv, s, e5, hSt, hsS⟩ := rows_open startC (by omega) (fun _ => rfl) Try.underlying24 cellsSt (fun _ _ => True) (fun f cs y hy => by obtain ⟨o, ho⟩ := start_cells hy; exact ⟨o, ho, trivial⟩) t5
  simp at e0 e1 e2 e3 e4 e5
  subst e0 e1 e2 e3 e4 e5
  have hW : ∀ (j : Nat) (t : TypeId) (d : DataW H), ([3, 3, 3, 22, 23, 24] : List TypeId)[j]? = some t → [y0.1, y1.1, y2.1, y3.1, y4.1, y5.1][j]? = some d → Small t d := by
    intro j t d ht hd
    rw [hx] at hS
    unfold Small at hS
    simp only [DataW.weights, Try.underlying26] at hS
    exact weights_each ht hd hS
  refine ⟨⟨i0, i1, i2, l, R.map RuleV.r, s⟩, _, _, _, R, rfl, ⟨hL, ⟨hR, fun z hz => ?_⟩, hSt, rfl⟩, ?_, ?_, ?_, ?_⟩
  · rcases hsR with rfl | ⟨elems, sp, hd, hel, hq⟩
    · simp at hz
    · obtain ⟨_, _, h1, _⟩ := hq z hz
      exact h1
  · rcases hsL with rfl | ⟨elems, sp, hd, hel, _⟩
    · simp
    · have h1 := hW 3 _ _ rfl rfl
      rw [hd] at h1
      have := (h1.slice Try.underlying22).1
      rw [bytesLk, hel] at this
      exact this
  · rcases hsR with rfl | ⟨elems, sp, hd, hel, _⟩
    · simp
    · have h1 := hW 4 _ _ rfl rfl
      rw [hd] at h1
      have := (h1.slice Try.underlying23).1
      rw [bytesRl, hel] at this
      simpa using this
  · rcases hsS with rfl | ⟨elems, sp, hd, hel, _⟩
    · simp
    · have h1 := hW 5 _ _ rfl rfl
      rw [hd] at h1
      have := (h1.slice Try.underlying24).1
      rw [bytesSt, hel] at this
      exact this
  · intro r hr
    obtain ⟨z, hz, rfl⟩ := List.mem_map.1 hr
    rcases hsR with rfl | ⟨elems, sp, hd, hel, hq⟩
    · simp at hz
    · obtain ⟨d, hdm, _, h2⟩ := hq z hz
      have h1 := hW 4 _ _ rfl rfl
      rw [hd] at h1
      exact h2 ((h1.slice Try.underlying23).2 d hdm)

end
end Go.Proofs.Ytkobkilfbbalaaa

