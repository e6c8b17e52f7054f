/-
  The program: what a process has done, told.
-/
import Derived.Test.YtbpaigpjffdcbaaPDo
import Derived.Laws.OwnMore
namespace Go.Proofs.Ytbpaigpjffdcbaa
open Go.RowKit Go.Sort Go.Maps

/-- rows that are read, in a block from lo on -/
def RowsIn {α : Type} (sz : Nat) (enc : α → List Value) (lo : Nat) (w : World) (v : Value) (l : List α) : Prop :=
  ∃ ao cap, v = .slice ao l.length cap ∧ l.length ≤ cap ∧ (l ≠ [] → ∃ b off, ao = some ⟨b, off, none⟩ ∧ lo ≤ b ∧ b < w.heap.size ∧ ∀ (j : Nat) (x : α) (k : Nat) (u : Value), l[j]? = some x → (enc x)[k]? = some u → w.cell? ⟨b, off + j * sz + k, none⟩ = some u)

theorem RowsIn.keep {α : Type} {sz : Nat} {enc : α → List Value} {lo : Nat} {w w' : World} {v : Value} {l : List α} {F : Nat → Prop} (h : RowsIn sz enc lo w v l) (k : KeptF F w w') (hF : ∀ i, F i → i < lo) : RowsIn sz enc lo w' v l := by
  obtain ⟨ao, cap, h1, h2, h3⟩ := h
  refine ⟨ao, cap, h1, h2, fun hne => ?_⟩
  obtain ⟨b, off, h4, h5, h6, h7⟩ := h3 hne
  exact ⟨b, off, h4, h5, Nat.lt_of_lt_of_le h6 k.size, fun j x k' u hx hu => by rw [k.cell (p := ⟨b, _, none⟩) h6 (fun hf => by have := hF b hf; omega)]; exact h7 j x k' u hx hu⟩
theorem RowsIn.mono {α : Type} {sz : Nat} {enc : α → List Value} {lo lo' : Nat} {w : World} {v : Value} {l : List α} (h : RowsIn sz enc lo w v l) (hl : lo' ≤ lo) : RowsIn sz enc lo' w v l := by
  obtain ⟨ao, cap, h1, h2, h3⟩ := h
  refine ⟨ao, cap, h1, h2, fun hne => ?_⟩
  obtain ⟨b, off, h4, h5, h6, h7⟩ := h3 hne
  exact ⟨b, off, h4, by omega, h6, h7⟩
theorem RowsIn.at {α : Type} {sz : Nat} {enc : α → List Value} {lo : Nat} {w : World} {v : Value} {l : List α} (h : RowsIn sz enc lo w v l) : RowsAt sz enc w w.heap.size v l := by
  obtain ⟨ao, cap, h1, h2, h3⟩ := h
  refine ⟨ao, cap, h1, h2, fun hne => ?_⟩
  obtain ⟨b, off, h4, h5, h6, h7⟩ := h3 hne
  exact ⟨b, off, h4, h6, h7⟩
theorem Own.rowsIn {α : Type} {E : Enc α} {w : World} {B g len cap : Nat} {l : List α} (h : Own E w B (.slice (some ⟨g, 0, none⟩) len cap) l) (c : Nat) (hc : l.length ≤ c) : RowsIn E.sz E.enc B w (.slice (some ⟨g, 0, none⟩) l.length c) l := by
  refine ⟨_, _, rfl, hc, fun hne => ⟨g, 0, rfl, (h.lt rfl).1, (h.lt rfl).2, fun j x k u hx hu => ?_⟩⟩
  rw [Nat.zero_add]
  exact h.cell hx hu
theorem RowsIn.none {α : Type} (sz : Nat) (enc : α → List Value) (lo : Nat) (w : World) (ao : Option Addr) (cap : Nat) : RowsIn sz enc lo w (.slice ao 0 cap) [] := ⟨ao, cap, rfl, Nat.zero_le _, fun h => absurd rfl h⟩

/-- all of a row of one's own is appended to another one -/
theorem wpList_append_all {P : Program} {w : World} {ops : Array Oper} {rest : List Oper} {o : Oper} {a : Act} {Q : Exit → Act → World → Prop} (hgd : o.guard = none) (s x : Operand) (t : TypeId)
    (ho : o.op = .call { callee := .builtin .append, args := #[s, x], argTypes := #[t, t] }) {α : Type} (E : Enc α)
    (base : Nat) (i : TypeInfo) (z : Value) (bytes : Nat) (ht : P.underlying t = some (.slice E.T)) (hi : P.info? E.T = some i) (hz : i.zero = some z)
    (hsize : i.size = E.sz) (hby : i.bytes = bytes) (hzs : z.cells.size = E.sz)
    (v xv : Value) (l : List α) (B : Nat) (hs : a.eval s = v) (hown : Own E w base v []) (hx : a.eval x = xv) (hsrc : Own E w B xv l)
    (h63 : l.length ≤ maxLen) (hbytes : l.length * bytes ≤ 140737488355328) (hbase : base ≤ w.heap.size)
    (h : ∀ v' w', Own E w' base v' l → w.grownBy w' v.ownBlock → wpList P ops Q rest (a.put o.dst v') w') : wpList P ops Q (o :: rest) a w :=
  wpList_plain hgd fun _ hK => by
    rcases hsrc.form with ⟨hv, hl⟩ | ⟨g, cap, hv, hcap⟩
    · have hr := run_append_owned_none (P := P) w base t o.type E.T i E.sz ht hi v 0 [] hown
      subst hv hl
      unfold Oper.wp execOp
      simp only [ho, resolve, invoke, builtin, Sem.run_bind, Sem.run_pure, Result.andThen_ok, List.map_toArray, List.map_cons, List.map_nil, hs, hx, hr]
      exact hK _ _ (h v w hown ⟨rfl, rfl, rfl, Nat.le_refl _, fun _ _ _ => rfl⟩)
    · subst hv
      have hc := hsrc.takeCells l.length (Nat.le_refl _)
      rw [List.take_length] at hc
      obtain ⟨v', w', hr, r1, r2, r3⟩ := run_append_ownX (P := P) w base t o.type E.T i z E.sz bytes ht hi hz hsize hby hzs E.pos v 0 [] hown ⟨g, 0, none⟩ l.length cap (flat E l) (flat_length E l) hc (flat_one E l) (by omega) (by rw [Nat.zero_add]; exact hbytes) hbase
      unfold Oper.wp execOp
      simp only [ho, resolve, invoke, builtin, Sem.run_bind, Sem.run_pure, Result.andThen_ok, List.map_toArray, List.map_cons, List.map_nil, hs, hx, hr]
      refine hK _ _ (h v' w' ?_ r2)
      unfold Own
      rw [Nat.zero_add, List.nil_append] at r1
      exact r1

set_option maxRecDepth 100000 in
set_option maxHeartbeats 2000000 in
theorem told_any (w : World) (B : Nat) (p : Pr) (h : PAt w B p) (hl : p.dn.length ≤ 5000) :
    Calls Try.prog 48 #[.pointer (some ⟨p.qb, 0, none⟩)] w fun e w' => ∃ ao cap, e = .returned (.slice ao p.dn.length cap) ∧ Below w.heap.size w w' ∧ RowsIn 5 dnC w.heap.size w' (.slice ao p.dn.length cap) p.dn := by
  obtain ⟨aod, capd, hdvf, hcapd⟩ := h.own.form'
  have c8 : w.cell? ⟨p.qb, 8, none⟩ = some (.slice aod p.dn.length capd) := by rw [← hdvf]; exact h.cells.2.2.2
  obtain ⟨j0, hj0, hy0, hy1, hy2⟩ := info_parts info_dp
  have hlq := h.core.blk.lt
  have hown0 : Own dpE (w.alloc (.cells #[] 69)) w.heap.size (.slice (some ⟨w.heap.size, 0, none⟩) 0 0) [] := Own.madeNil dpE w w.heap.size 0 #[] (Nat.le_refl _) (Nat.zero_le _) rfl
  have hsrc : Own dpE (w.alloc (.cells #[] 69)) B (.slice aod p.dn.length capd) p.dn := by
    rw [← hdvf]
    exact h.own.keep ((KeptF.refl (fun _ => False) w).alloc _) (fun _ _ e => e)
  have hb0 : Below w.heap.size w (w.alloc (.cells #[] 69)) := (Below.refl _ _).alloc (Nat.le_refl _) _
  clear hdvf
  go_enter Try.func48, Try.ntmps48
  go_wp2_with (at_builtin; refine wpList_append_all rfl (.tmp 9) (.tmp 13) 60 rfl dpE w.heap.size j0 _ 40 Try.underlying60 hj0 hy0 hy1 hy2 rfl (.slice (some ⟨w.heap.size, 0, none⟩) 0 0) (.slice aod p.dn.length capd) p.dn B rfl ?own rfl ?src ?b1 ?b2 ?hb ?k)
  case own => exact hown0
  case src => exact hsrc
  case b1 => unfold maxLen; omega
  case b2 => omega
  case hb => exact hb0.size
  case k =>
    intro v2 w2 hO2 hgr2
    have hb2 : Below w.heap.size w w2 := hb0.trans (KeptF.below (F := fun i => i = w.heap.size) (KeptF.of_grown hgr2 (fun k e _ => by simp [Value.ownBlock] at e; exact e.symm)) hb0.size (fun i hi => by omega))
    rcases hO2.form with ⟨hv, hn⟩ | ⟨g, cap, hv, hcap⟩
    · subst hv
      have hn0 : p.dn.length = 0 := by rw [hn]; rfl
      have Hn : Hid (p.dn = []) := hn
      rw [hn0]
      clear hn hn0
      go_wp2
      go_ret
      rw [Hn.out]
      exact ⟨none, 0, rfl, hb2, RowsIn.none _ _ _ _ _ _⟩
    · subst hv
      clear hown0 hsrc hgr2 c8
      have hrow := hO2.rowsIn p.dn.length (Nat.le_refl _)
      go_wp2
      go_ret
      exact ⟨_, _, rfl, hb2, hrow⟩

end Go.Proofs.Ytbpaigpjffdcbaa
