/-
  Without, item, same.
-/
import Derived.Test.YtaieackeflmhgaaK06
namespace Go.Proofs.Ytaieackeflmhgaa
open Go.RowKit Go.Sort Go.Maps

theorem info_ritem : (Try.prog.info? 47).map (fun i => (i.zero, i.size, i.bytes)) = some (some (.agg #[.int .i64 0, .int .i64 0, .int .i64 0, .int .i64 0]), 4, 32) := by kernel_rfl

set_option maxRecDepth 100000 in
set_option maxHeartbeats 400000 in
theorem item_any (x : It) (w : World) :
    Calls Try.prog 47 #[.agg #[.int .i64 x.t, .int .i64 x.f, .int .i64 x.s, .int .i64 x.l]] w fun e w' => e = .returned (.agg #[.int .i64 x.t, .int .i64 x.f, .int .i64 x.s, .int .i64 x.l]) ∧ Below w.heap.size w w' := by
  go_enter Try.func47, Try.ntmps47
  go_wp2
  refine bodyPost_ret (v := .agg #[.int .i64 x.t, .int .i64 x.f, .int .i64 x.s, .int .i64 x.l]) (by simp [results, Try.results47, go_sem]) rfl ⟨rfl, ?_⟩
  exact ((Below.refl _ _).alloc (Nat.le_refl _) _).alloc (by simp) _

set_option maxRecDepth 100000 in
set_option maxHeartbeats 1000000 in
theorem same_any (x : It) (w : World) :
    Calls Try.prog 50 #[.agg #[.int .i64 x.t, .int .i64 x.f, .int .i64 x.s, .int .i64 x.l], .agg #[.int .i64 x.t, .int .i64 x.f, .int .i64 x.s, .int .i64 x.l]] w fun e w' => e = .returned (.bool true) ∧ Below w.heap.size w w' := by
  go_enter Try.func50, Try.ntmps50
  go_wp2
  go_ret
  exact ⟨rfl, ((Below.refl _ _).alloc (Nat.le_refl _) _).alloc (by simp) _⟩

set_option maxRecDepth 100000 in
set_option maxHeartbeats 4000000 in
theorem without_any (w : World) (B g cap : Nat) (l : List It) (i : Nat) (h : ISl w B (.slice (some ⟨g, 0, none⟩) l.length cap) l) (hcap : l.length ≤ cap) (hn : l.length ≤ 2932031007317) (hi : i < l.length) :
    Calls Try.prog 51 #[.slice (some ⟨g, 0, none⟩) l.length cap, .int .i64 i] w fun e w' => ∃ v', e = .returned v' ∧ ISl w' w.heap.size v' (l.eraseIdx i) ∧ Below w.heap.size w w' := by
  obtain ⟨i0, hi0, hz0, hz1, hz2⟩ := info_parts info_ritem
  have hcells : ∀ j u, (itsC (l.take i))[j]? = some u → w.cell? ((⟨g, 0, none⟩ : Addr).add j) = some u := by
    intro j u hu
    have hj := get_lt hu
    rw [itsC_length] at hj
    rw [itsC_take] at hu
    have h4 : j < i * 4 := by have := List.length_take_le i l; omega
    rw [List.getElem?_take_of_lt h4] at hu
    have ha : ((⟨g, 0, none⟩ : Addr).add j) = ⟨g, j, none⟩ := by simp [Addr.add]; omega
    rw [ha, World.ownsRow.cellAt h j (by omega)]
    exact hu
  have hlt : (l.take i).length = i := by simp; omega
  have hone := itsC_one (l.take i)
  have hone2 := itsC_one (l.drop (i + 1))
  go_enter Try.func51, Try.ntmps51
  go_wp2_with (at_builtin; refine wpList_append_ownX rfl (.tmp 6) (.tmp 9) 50 rfl w.heap.size 47 i0 _ 4 32 Try.underlying50 hi0 hz0 hz1 hz2 rfl (by decide) (.slice none 0 0) 0 [] rfl ?own ⟨g, 0, none⟩ i cap (itsC (l.take i)) rfl ?len ?cells ?one ?b1 ?b2 ?hb ?k)
  case own => exact World.ownsRow_nil _ _ _ _
  case len => rw [itsC_length, hlt]
  case cells => exact hcells
  case one => exact hone
  case b1 => unfold maxLen; omega
  case b2 => omega
  case hb => exact Nat.le_refl _
  case k =>
    intro v1 w1 hown1 hgr1 hfr1
    have hK1 : Below w.heap.size w w1 := (Below.refl _ _).grown hgr1 (Nat.le_refl _) (fun k hk => by simp [Value.ownBlock] at hk)
    have hle : (l.eraseIdx i).length = i + (l.length - (i + 1)) := by rw [List.length_eraseIdx]; rw [if_pos hi]; omega
    have heq : itsC (l.eraseIdx i) = itsC (l.take i) ++ itsC (l.drop (i + 1)) := by rw [List.eraseIdx_eq_take_drop_succ, itsC_append]
    have hg := (h.lt (g := g) rfl).2
    have hcell2 : ∀ o, w1.cell? ⟨g, o, none⟩ = w.cell? ⟨g, o, none⟩ := fun o => hK1.cell (p := ⟨g, o, none⟩) hg
    clear hcells hone
    by_cases hce : cap = i + 1
    · have hl0 : l.length - (i + 1) = 0 := by omega
      have hdr : l.drop (i + 1) = [] := List.eq_nil_of_length_eq_zero (by rw [List.length_drop]; exact hl0)
      have hle' : (l.eraseIdx i).length = i + 0 := by rw [hle, hl0]
      have heq' : itsC (l.eraseIdx i) = itsC (l.take i) ++ [] := by rw [heq, hdr]; rfl
      have Hle : Hid ((l.eraseIdx i).length = i + 0) := hle'
      have Heq : Hid (itsC (l.eraseIdx i) = itsC (l.take i) ++ []) := heq'
      clear hl0 hdr hle heq hle' heq'
      subst hce
      go_wp2_with (at_builtin; refine wpList_append_ownX rfl (.tmp 11) (.tmp 15) 50 rfl w.heap.size 47 i0 _ 4 32 Try.underlying50 hi0 hz0 hz1 hz2 rfl (by decide) v1 i (itsC (l.take i)) rfl ?own2 ⟨g, 0, none⟩ 0 0 [] rfl rfl ?cells2 ?one2 ?b12 ?b22 ?hb2 ?k2)
      case own2 => exact hown1
      case cells2 => intro j u hu; simp at hu
      case one2 => intro u hu; simp at hu
      case b12 => unfold maxLen; omega
      case b22 => omega
      case hb2 => exact hgr1.size
      case k2 =>
        intro v2 w2 hown2 hgr2 hfr2
        go_wp2
        go_ret
        refine ⟨v2, rfl, ?_, ?_⟩
        · unfold ISl
          rw [Hle.out, Heq.out, Nat.add_zero, List.append_nil]
          exact hown2
        · refine hK1.trans (KeptF.below (F := fun k => w.heap.size ≤ k) (KeptF.of_grown hgr2 (fun k hk _ => ?_)) hgr1.size (fun i h => h))
          exact World.ownsRow_ge hown1 k hk
    · have hcs : ∀ j u, (itsC (l.drop (i + 1)))[j]? = some u → w1.cell? ((⟨g, (i + 1) * 4, none⟩ : Addr).add j) = some u := by
        intro j u hu
        have hj := get_lt hu
        rw [itsC_length, List.length_drop] at hj
        rw [itsC_drop, List.getElem?_drop] at hu
        have ha : ((⟨g, (i + 1) * 4, none⟩ : Addr).add j) = ⟨g, (i + 1) * 4 + j, none⟩ := by simp [Addr.add]
        rw [ha, hcell2, World.ownsRow.cellAt h _ (by omega)]
        exact hu
      clear hcell2
      go_wp2_with (at_builtin; refine wpList_append_ownX rfl (.tmp 11) (.tmp 15) 50 rfl w.heap.size 47 i0 _ 4 32 Try.underlying50 hi0 hz0 hz1 hz2 rfl (by decide) v1 i (itsC (l.take i)) rfl ?own2 ⟨g, (i + 1) * 4, none⟩ (l.length - (i + 1)) (cap - (i + 1)) (itsC (l.drop (i + 1))) rfl ?len2 ?cells2 ?one2 ?b12 ?b22 ?hb2 ?k2)
      case own2 => exact hown1
      case len2 => rw [itsC_length, List.length_drop]
      case cells2 => exact hcs
      case one2 => exact hone2
      case b12 => unfold maxLen; omega
      case b22 => omega
      case hb2 => exact hgr1.size
      case k2 =>
        intro v2 w2 hown2 hgr2 hfr2
        go_wp2
        go_ret
        refine ⟨v2, rfl, ?_, ?_⟩
        · unfold ISl
          rw [hle, heq]
          exact hown2
        · refine hK1.trans (KeptF.below (F := fun k => w.heap.size ≤ k) (KeptF.of_grown hgr2 (fun k hk _ => ?_)) hgr1.size (fun i h => h))
          exact World.ownsRow_ge hown1 k hk

end Go.Proofs.Ytaieackeflmhgaa

