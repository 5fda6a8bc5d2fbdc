/- The program's nodes in order: rows of nodes that a call owns. -/
import Derived.Test.YtbbbnnkkjgikbaaImpl6N
import Derived.Test.YtbbbnnkkjgikbaaFact16
import Derived.Laws.AppendOwnNone
import Derived.Maps.AppendAt
import Derived.Deep.RegionLaw
import Derived.BigRegion
namespace Go.Proofs.Ytbbbnnkkjgikbaa
open Go.ChangeShapes Go.WideShapes Go.ChangeAt Go.RowKit
set_option linter.unusedVariables false

theorem infoNd : (Try.prog.info? 51).map (fun i => (i.zero, i.size, i.bytes)) = some (some (.agg #[.nilIface, .nilIface]), 2, 32) := by kernel_rfl
def lft : Tr → Value
  | .leaf => .nilIface
  | .node a _ => .iface (ty a) (body a)
def rgt : Tr → Value
  | .leaf => .nilIface
  | .node _ b => .iface (ty b) (body b)
def flatT (l : List Tr) : List Value := l.flatMap fun t => [lft t, rgt t]
theorem flatT_app (l m : List Tr) : flatT (l ++ m) = flatT l ++ flatT m := by simp [flatT]
theorem flatT_len (l : List Tr) : (flatT l).length = l.length * 2 := by
  induction l with
  | nil => rfl
  | cons p l ih => rw [show p :: l = [p] ++ l from rfl, flatT_app, List.length_append, ih, List.length_append]; simp [flatT]; omega
theorem flatT_at (l : List Tr) : ∀ i, i < l.length → (flatT l)[i * 2]? = some (lft (l.getD i .leaf)) ∧ (flatT l)[i * 2 + 1]? = some (rgt (l.getD i .leaf)) := by
  induction l with
  | nil => intro i h; simp at h
  | cons p l ih =>
    intro i h
    have e : flatT (p :: l) = lft p :: rgt p :: flatT l := rfl
    cases i with
    | zero => rw [e]; exact ⟨rfl, rfl⟩
    | succ i =>
      have := ih i (by simpa using h)
      rw [e, show (i + 1) * 2 = i * 2 + 1 + 1 by omega]
      simpa using this
theorem lft_one (t : Tr) : (lft t).oneCell' = true := by cases t <;> rfl
theorem rgt_one (t : Tr) : (rgt t).oneCell' = true := by cases t <;> rfl
theorem flatT_one (l : List Tr) : ∀ u ∈ flatT l, u.oneCell' = true := by
  intro u hu
  unfold flatT at hu
  obtain ⟨t, -, ht⟩ := List.mem_flatMap.1 hu
  simp at ht
  rcases ht with rfl | rfl
  · exact lft_one t
  · exact rgt_one t
/-- A row of nodes that the call owns. -/
def RowTr (w : World) (base : Nat) (v : Value) (l : List Tr) : Prop := w.ownsRow base 51 2 v l.length (flatT l)
theorem RowTr.nil (w : World) (base : Nat) : RowTr w base (.slice none 0 0) [] := ⟨rfl, .inl ⟨rfl, rfl⟩⟩
theorem RowTr.keep {w w' : World} {base B : Nat} {v : Value} {l : List Tr} (h : RowTr w base v l) (hb : Below B w w') (hB : w.heap.size ≤ B) : RowTr w' base v l := by
  obtain ⟨h1, h2⟩ := h
  refine ⟨h1, h2.elim .inl fun ⟨g, cap, cur, e, hg, hh, r⟩ => .inr ⟨g, cap, cur, e, hg, ?_, r⟩⟩
  have : g < w.heap.size := (Array.getElem?_eq_some_iff.1 hh).1
  exact (hb.block g (by omega)).trans hh
theorem RowTr.alloc {w : World} {base : Nat} {v : Value} {l : List Tr} (h : RowTr w base v l) (o : Obj) : RowTr (w.alloc o) base v l := World.ownsRow.alloc h o
theorem RowTr.drewN {w : World} {base n : Nat} {v : Value} {l : List Tr} (h : RowTr w base v l) : RowTr (w.drewN n) base v l := h
theorem RowTr.drew {w : World} {base : Nat} {v : Value} {l : List Tr} (h : RowTr w base v l) : RowTr w.drew base v l := h
theorem RowTr.low {w : World} {base base' : Nat} {v : Value} {l : List Tr} (h : RowTr w base v l) (hb : base' ≤ base) : RowTr w base' v l :=
  ⟨h.1, h.2.elim .inl fun ⟨g, cap, cur, e, hg, r⟩ => .inr ⟨g, cap, cur, e, Nat.le_trans hb hg, r⟩⟩
theorem RowTr.form {w : World} {base : Nat} {v : Value} {l : List Tr} (h : RowTr w base v l) : ∃ A cap, v = .slice A l.length cap := by
  obtain ⟨-, h⟩ := h
  rcases h with ⟨rfl, h0⟩ | ⟨g, cap, cur, rfl, -⟩
  · exact ⟨none, 0, by rw [h0]⟩
  · exact ⟨_, cap, rfl⟩
theorem RowTr.cells {w : World} {base : Nat} {v : Value} {l : List Tr} (h : RowTr w base v l) : (v = .slice none 0 0 ∧ l = []) ∨ ∃ g cap, v = .slice (some ⟨g, 0, none⟩) l.length cap ∧ base ≤ g ∧ g < w.heap.size ∧ ∀ j u, (flatT l)[j]? = some u → w.cell? (Addr.add ⟨g, 0, none⟩ j) = some u := by
  obtain ⟨hl, h⟩ := h
  rcases h with ⟨rfl, h0⟩ | ⟨g, cap, cur, rfl, hb, hg, hn, hcap, hsz, ht⟩
  · exact .inl ⟨rfl, List.length_eq_zero_iff.1 h0⟩
  · have hlt : g < w.heap.size := (Array.getElem?_eq_some_iff.1 hg).1
    refine .inr ⟨g, cap, rfl, hb, hlt, fun j u hj => ?_⟩
    have hjl : j < l.length * 2 := by
      have := (List.getElem?_eq_some_iff.1 hj).1
      rw [flatT_len] at this; exact this
    rw [Addr.add_lit, Nat.zero_add, cell_of_row w g j cur _ (0, 0) hg, ← hj, ← ht, List.getElem?_take, if_pos hjl, Array.getElem?_toList]
theorem RowTr.cell {w : World} {base : Nat} {v : Value} {l : List Tr} (h : RowTr w base v l) {j : Nat} (hj : j < l.length) :
    ∃ g cap, v = .slice (some ⟨g, 0, none⟩) l.length cap ∧ base ≤ g ∧ g < w.heap.size ∧ w.cell? ⟨g, j * 2, none⟩ = some (lft (l.getD j .leaf)) ∧ w.cell? ⟨g, j * 2 + 1, none⟩ = some (rgt (l.getD j .leaf)) := by
  rcases h.cells with ⟨-, rfl⟩ | ⟨g, cap, e, hb, hg, hc⟩
  · simp at hj
  · obtain ⟨h1, h2⟩ := flatT_at l j hj
    have c1 := hc _ _ h1
    have c2 := hc _ _ h2
    rw [Addr.add_lit, Nat.zero_add] at c1 c2
    exact ⟨g, cap, e, hb, hg, c1, c2⟩
theorem node_cells {w : World} {b : Nat} {x y : Tr} (h0 : w.cell? ⟨b, 0, none⟩ = some (.iface (ty x) (body x))) (h1 : w.cell? ⟨b, 1, none⟩ = some (.iface (ty y) (body y))) : ∀ j u, (flatT [Tr.node x y])[j]? = some u → w.cell? (Addr.add ⟨b, 0, none⟩ j) = some u := by
  intro j u hj
  rw [Addr.add_lit, Nat.zero_add]
  match j, hj with
  | 0, hj => simp [flatT] at hj; subst hj; exact h0
  | 1, hj => simp [flatT] at hj; subst hj; exact h1

/-- Nodes appended to a row of this call's own, in a region. -/
theorem stepAppTr {w : World} {ops : Array Oper} {o : Oper} {a : Act} {K : Act → World → Prop} {Q : Exit → Act → World → Prop} {E : Prop} (hgd : o.guard = none) (s x : Operand)
    (ho : o.op = .call { callee := .builtin .append, args := #[s, x], argTypes := #[60, 60] })
    (base : Nat) (v : Value) (l : List Tr) (hs : a.eval s = v) (hown : RowTr w base v l)
    (b m c : Nat) (r : List Tr) (hm : r.length = m) (hx : a.eval x = .slice (some ⟨b, 0, none⟩) m c) (hcells : ∀ j u, (flatT r)[j]? = some u → w.cell? (Addr.add ⟨b, 0, none⟩ j) = some u)
    (hn : l.length + m ≤ 1099511627) (hbase : base ≤ w.heap.size)
    (h : ∀ v' w', RowTr w' base v' (l ++ r) → w.grownBy w' v.ownBlock → K (a.put o.dst v') w') :
    if Region.wanted o (yielded ops a.tmps) = true then Oper.wp Try.prog o a w K Q else E := by
  have hw : Region.wanted o (yielded ops a.tmps) = true := by simp [Region.wanted, hgd]
  rw [if_pos hw]
  subst hm
  obtain ⟨i0, hi, hz0, hz1, hz2⟩ := info_parts infoNd
  obtain ⟨v', w', hr, h2, h3, h4, h5⟩ := run_append_own_at (P := Try.prog) w base 60 o.type 51 i0 (.agg #[.nilIface, .nilIface]) 2 32 Try.underlying60 hi hz0 hz1 hz2 rfl (by decide) v l.length _ hown ⟨b, 0, none⟩ r.length c (flatT r) (flatT_len r) hcells (flatT_one r) (by unfold maxLen; omega) (by omega) hbase
  unfold Oper.wp execOp
  simp only [ho, resolve, invoke, builtin, Sem.run_bind, Sem.run_pure, Result.andThen_ok, List.map_toArray, List.map_cons, List.map_nil, hs, hx, hr]
  exact h v' w' (by unfold RowTr; rw [flatT_app, List.length_append]; exact h2) h3
theorem wpAppTr {w : World} {ops : Array Oper} {rest : List Oper} {o : Oper} {a : Act} {Q : Exit → Act → World → Prop} (hgd : o.guard = none) (s x : Operand)
    (ho : o.op = .call { callee := .builtin .append, args := #[s, x], argTypes := #[60, 60] })
    (base : Nat) (v : Value) (l : List Tr) (hs : a.eval s = v) (hown : RowTr w base v l)
    (b m c : Nat) (r : List Tr) (hm : r.length = m) (hx : a.eval x = .slice (some ⟨b, 0, none⟩) m c) (hcells : ∀ j u, (flatT r)[j]? = some u → w.cell? (Addr.add ⟨b, 0, none⟩ j) = some u)
    (hn : l.length + m ≤ 1099511627) (hbase : base ≤ w.heap.size)
    (h : ∀ v' w', RowTr w' base v' (l ++ r) → w.grownBy w' v.ownBlock → wpList Try.prog ops Q rest (a.put o.dst v') w') : wpList Try.prog ops Q (o :: rest) a w := by
  subst hm
  obtain ⟨i0, hi, hz0, hz1, hz2⟩ := info_parts infoNd
  refine wpList_append_own _ hgd s x 60 ho base 51 i0 (.agg #[.nilIface, .nilIface]) 2 32 Try.underlying60 hi hz0 hz1 hz2 rfl (by decide) v l.length _ hs hown ⟨b, 0, none⟩ r.length c (flatT r) hx (flatT_len r) hcells (flatT_one r) (by unfold maxLen; omega) (by omega) hbase ?_
  intro v' w' h1 h2 _
  exact h v' w' (by unfold RowTr; rw [flatT_app, List.length_append]; exact h1) h2
theorem wpAppTrNone {w : World} {ops : Array Oper} {rest : List Oper} {o : Oper} {a : Act} {Q : Exit → Act → World → Prop} (hgd : o.guard = none) (s x : Operand)
    (ho : o.op = .call { callee := .builtin .append, args := #[s, x], argTypes := #[60, 60] })
    (base : Nat) (v : Value) (l : List Tr) (hs : a.eval s = v) (hown : RowTr w base v l) (hx : a.eval x = .slice none 0 0)
    (h : wpList Try.prog ops Q rest (a.put o.dst v) w) : wpList Try.prog ops Q (o :: rest) a w := by
  obtain ⟨i0, hi, hz0, hz1, hz2⟩ := info_parts infoNd
  exact wpList_append_own_none hgd s x 60 ho base 51 i0 2 Try.underlying60 hi v l.length _ hs hown hx h

theorem rs_grown {w W w' : World} {x y : Value} {row : Option Nat} (hg : W.grownBy w' row) (hr : ∀ j, row = some j → w.heap.size < j) (h : W.cell? ⟨w.heap.size, 0, none⟩ = some x ∧ W.cell? ⟨w.heap.size, 1, none⟩ = some y ∧ Below w.heap.size w W ∧ w.heap.size < W.heap.size) :
    w'.cell? ⟨w.heap.size, 0, none⟩ = some x ∧ w'.cell? ⟨w.heap.size, 1, none⟩ = some y ∧ Below w.heap.size w w' ∧ w.heap.size < w'.heap.size := by
  obtain ⟨h1, h2, h3, h4⟩ := h
  have hs := hg.size
  have hne : some w.heap.size ≠ row := fun e => Nat.lt_irrefl _ (hr _ e.symm)
  exact ⟨hg.cell h1 hne, hg.cell h2 hne, h3.grown hg (Nat.le_of_lt h4) (fun j hj => Nat.le_of_lt (hr j hj)), by omega⟩
theorem rs_alloc {w W : World} {x y : Value} {o : Obj} (h : W.cell? ⟨w.heap.size, 0, none⟩ = some x ∧ W.cell? ⟨w.heap.size, 1, none⟩ = some y ∧ Below w.heap.size w W ∧ w.heap.size < W.heap.size) :
    (W.alloc o).cell? ⟨w.heap.size, 0, none⟩ = some x ∧ (W.alloc o).cell? ⟨w.heap.size, 1, none⟩ = some y ∧ Below w.heap.size w (W.alloc o) ∧ w.heap.size < (W.alloc o).heap.size := by
  obtain ⟨h1, h2, h3, h4⟩ := h
  refine ⟨(World.cell?_of_block (a := ⟨w.heap.size, 0, none⟩) (Below.heap_alloc _ _ _ h4)).trans h1, (World.cell?_of_block (a := ⟨w.heap.size, 1, none⟩) (Below.heap_alloc _ _ _ h4)).trans h2, h3.alloc h3.size _, by simp; omega⟩
theorem rs_drewN {w W : World} {x y : Value} {n : Nat} (h : W.cell? ⟨w.heap.size, 0, none⟩ = some x ∧ W.cell? ⟨w.heap.size, 1, none⟩ = some y ∧ Below w.heap.size w W ∧ w.heap.size < W.heap.size) :
    (W.drewN n).cell? ⟨w.heap.size, 0, none⟩ = some x ∧ (W.drewN n).cell? ⟨w.heap.size, 1, none⟩ = some y ∧ Below w.heap.size w (W.drewN n) ∧ w.heap.size < (W.drewN n).heap.size :=
  ⟨h.1, h.2.1, below_drewN h.2.2.1 n, h.2.2.2⟩
theorem pc0 {w : World} {x y : Value} {t : TypeId} {b : Nat} (hb : b = w.heap.size) : (w.alloc (.cells #[x, y] t)).cell? ⟨b, 0, none⟩ = some x := by
  subst hb; rw [World.cell?_alloc_at _ _ _ _ rfl]; rfl
theorem pc1 {w : World} {x y : Value} {t : TypeId} {b : Nat} (hb : b = w.heap.size) : (w.alloc (.cells #[x, y] t)).cell? ⟨b, 1, none⟩ = some y := by
  subst hb; rw [World.cell?_alloc_at _ _ _ _ rfl]; rfl
theorem ifBody (t : Tr) : (Value.iface (ty t) (body t)) = tv t := rfl

/-- What a call of nodesInOrder answers. -/
def NodesIn (l : List Tr) (w : World) (e : Ending) (w' : World) : Prop := ∃ v, e = .returned v ∧ RowTr w' w.heap.size v l ∧ Below w.heap.size w w'
set_option maxRecDepth 100000 in
theorem nodesNil (w : World) : Calls Try.prog 67 #[.nilIface] w (NodesIn [] w) := by
  have hn3 := asNode_nil
  go_enter Try.func67, Try.ntmps67
  go_wp2
  go_ret
  exact ⟨_, rfl, RowTr.nil _ _, Below.refl _ _⟩
set_option maxRecDepth 100000 in
set_option maxHeartbeats 3200000 in
theorem nodesF : ∀ (t : Tr), nds t ≤ 1000 → ∀ w : World, Calls Try.prog 67 #[.iface (ty t) (body t)] w (NodesIn (nods t) w) := by
  intro t
  induction t with
  | leaf =>
    intro _ w
    have hn2 := asNode_leaf
    rw [show ty Tr.leaf = 85 from rfl]
    generalize body Tr.leaf = V
    go_enter Try.func67, Try.ntmps67
    go_wp2
    go_ret
    exact ⟨_, rfl, RowTr.nil _ _, Below.refl _ _⟩
  | node a b ia ib =>
    intro hn w
    simp only [nds] at hn
    have hn1 := asNode
    have HA := Lib.hid (ia (by omega))
    have HB := Lib.hid (ib (by omega))
    have la := nods_len a
    have lb := nods_len b
    have HN := Lib.hid (show nods (.node a b) = nods a ++ [Tr.node a b] ++ nods b by rw [nods, List.append_assoc]; rfl)
    have HQ0 := Lib.hid (fun (W : World) (k : Nat) (h0 : W.cell? ⟨k, 0, none⟩ = some (.iface (ty a) (body a))) (h1 : W.cell? ⟨k, 1, none⟩ = some (.iface (ty b) (body b))) => node_cells h0 h1)
    clear ia ib
    rw [show ty (Tr.node a b) = 51 from rfl, show body (Tr.node a b) = .agg #[.iface (ty a) (body a), .iface (ty b) (body b)] from rfl]
    generalize nods a = la' at *
    generalize nods b = lb' at *
    generalize Tr.node a b = tn at *
    generalize ty a = Ta at *
    generalize ty b = Tb at *
    generalize body a = Va at *
    generalize body b = Vb at *
    have l1 : la'.length ≤ 1000 := by omega
    have l2 : lb'.length ≤ 1000 := by omega
    clear la lb
    have HS := Lib.hid (rs_start w (.iface Ta Va) (.iface Tb Vb) 51)
    go_enter Try.func67, Try.ntmps67
    go_wp2
    go_region_law (first
      | (go_simp; go_at_call 67; (with_reducible refine (HA.out _).mono ?_); rintro e w1 ⟨v1, rfl, hrow, hb⟩; have HS1 := Lib.hid (rs_call hb (by repeat (first | exact HS.out | with_reducible apply rs_alloc | with_reducible apply rs_drew | with_reducible apply rs_drewN))); have HR1 := Lib.hid (RowTr.low hrow (base' := w.heap.size + 1) (by simp)); have hsz1 : w.heap.size + 1 ≤ w1.heap.size := HS1.out.2.2.2; have HKB := Lib.hid hb; have hc10 := HS1.out.1; have hc11 := HS1.out.2.1; clear hrow hb)
      | (refine stepAppTr rfl _ _ (by rfl) (w.heap.size + 1) v1 la' (by rfl) (by repeat (first | exact HR1.out | with_reducible apply RowTr.alloc | with_reducible apply RowTr.drew | with_reducible apply RowTr.drewN)) _ 1 _ [tn] rfl (by rfl) (HQ0.out _ _ (by first | exact pc0 (by simp) | exact (HKB.out.cell (p := ⟨w.heap.size + 1, 0, none⟩) (by simp)).trans (pc0 (by simp))) (by first | exact pc1 (by simp) | exact (HKB.out.cell (p := ⟨w.heap.size + 1, 1, none⟩) (by simp)).trans (pc1 (by simp)))) (by omega) (by first | exact hsz1 | (simp; omega)) ?_; intro v2 w2 hown2 hg2; have HR2 := Lib.hid hown2; have HS2 := Lib.hid (rs_grown (w := w) hg2 (fun j hj => by have := (World.ownsRow.lt HR1.out j hj).1; omega) (by repeat (first | exact HS1.out | with_reducible apply rs_alloc | with_reducible apply rs_drew | with_reducible apply rs_drewN))); have hc20 := HS2.out.1; have hc21 := HS2.out.2.1; clear hown2 hg2))
    all_goals go_wp2_with fail
    all_goals (have hsz2 := HS2.out.2.2.2)
    all_goals (with_reducible refine (HB.out _).mono ?_)
    all_goals (rintro e w3 ⟨v3, rfl, hrow3, hb3⟩)
    all_goals (have HS3 := Lib.hid (rs_call hb3 HS2.out))
    all_goals (have HR3 := Lib.hid (RowTr.keep HR2.out hb3 (Nat.le_refl _)))
    all_goals (have hsz3 := hb3.size)
    all_goals (rcases hrow3.cells with ⟨rfl, e3⟩ | ⟨g3, c3, rfl, hg3, hlt3, hcc3⟩)
    all_goals (have HC3 := Lib.hid hrow3)
    all_goals (clear hrow3 hb3)
    all_goals first
      | (have HCC := Lib.hid hcc3
         clear hcc3
         go_wp2_with (at_builtin; go_must (refine wpAppTr rfl _ _ rfl (w.heap.size + 1) v2 (la' ++ [tn]) rfl HR3.out g3 lb'.length c3 lb' rfl rfl HCC.out (by rw [List.length_append, List.length_singleton]; omega) (by omega) ?_); intro v4 w4 hown4 hg4)
         go_ret
         exact ⟨v4, rfl, by rw [HN.out]; exact RowTr.low hown4 (by omega), (rs_grown (w := w) hg4 (fun j hj => by have := (World.ownsRow.lt HR3.out j hj).1; omega) HS3.out).2.2.1⟩)
      | (have HE3 := Lib.hid e3
         clear e3
         go_wp2_with (at_builtin; go_must (refine wpAppTrNone rfl _ _ rfl (w.heap.size + 1) v2 (la' ++ [tn]) rfl HR3.out rfl ?_))
         go_ret
         exact ⟨v2, rfl, by rw [HN.out, HE3.out, List.append_nil]; exact RowTr.low HR3.out (by omega), HS3.out.2.2.1⟩)

end Go.Proofs.Ytbbbnnkkjgikbaa
