/- The model's and the program's TurnPartition; slices.Grow of nothing and slices.Concat of two slices. -/
import Derived.Test.YtefbbkogfoongaaImpl8A
import Derived.Test.YtefbbkogfoongaaSpec2G
import Derived.Lib.AppendZeros
import Derived.Deep.RegionHeld3
namespace Go.Proofs.Ytefbbkogfoongaa
open Go.ChangeShapes Go.WideShapes Go.ChangeAt Go.RowKit
set_option linter.unusedVariables false

/-- What TurnPartition answers. -/
def turnL (xs : List Int) : List Int := xs.getD (xs.length - 1) 0 :: xs.take (xs.length - 1)
theorem turnL_len {xs : List Int} (h : 0 < xs.length) : (turnL xs).length = xs.length := by unfold turnL; rw [List.length_cons, List.length_take]; omega
def turnP (xs : List Int) : List Int := if prtB xs = true then (if xs.length = 0 then [] else rnO (turnL xs) xs.length) else []
theorem sk_below {w W w' : World} {lo hi g n : Nat} {v p : Value} {xs : List Int} (hhi : hi ≤ w.heap.size) (hg : g < w.heap.size) (hb : Below w.heap.size W w') (h : W.cell? ⟨g, n, none⟩ = some v ∧ OwnI W lo hi p xs ∧ Below w.heap.size w W) : w'.cell? ⟨g, n, none⟩ = some v ∧ OwnI w' lo hi p xs ∧ Below w.heap.size w w' :=
  ⟨(hb.cell (p := ⟨g, n, none⟩) hg).trans h.1, h.2.1.keep hb hhi, h.2.2.trans hb⟩
theorem below_al {w W : World} (h : w.heap.size ≤ W.heap.size) (o : Obj) : Below w.heap.size W (W.alloc o) := (Below.refl _ W).alloc h o
section
variable {w W w' : World} {lo hi g n : Nat} {v p : Value} {xs : List Int}
theorem sk_al (hhi : hi ≤ w.heap.size) (hg : g < w.heap.size) (h : W.cell? ⟨g, n, none⟩ = some v ∧ OwnI W lo hi p xs ∧ Below w.heap.size w W) (o : Obj) : (W.alloc o).cell? ⟨g, n, none⟩ = some v ∧ OwnI (W.alloc o) lo hi p xs ∧ Below w.heap.size w (W.alloc o) :=
  sk_below hhi hg (below_al h.2.2.size o) h
theorem sk_dr (hhi : hi ≤ w.heap.size) (hg : g < w.heap.size) (h : W.cell? ⟨g, n, none⟩ = some v ∧ OwnI W lo hi p xs ∧ Below w.heap.size w W) : W.drew.cell? ⟨g, n, none⟩ = some v ∧ OwnI W.drew lo hi p xs ∧ Below w.heap.size w W.drew :=
  sk_below hhi hg (below_drewN (Below.refl _ _) 1) h
theorem sk_gr {row : Option Nat} (hhi : hi ≤ w.heap.size) (hg : g < w.heap.size) (hgr : W.grownBy w' row) (hr : ∀ k, row = some k → w.heap.size ≤ k) (h : W.cell? ⟨g, n, none⟩ = some v ∧ OwnI W lo hi p xs ∧ Below w.heap.size w W) : w'.cell? ⟨g, n, none⟩ = some v ∧ OwnI w' lo hi p xs ∧ Below w.heap.size w w' :=
  sk_below hhi hg ((Below.refl _ W).grown hgr h.2.2.size hr) h
theorem sk_ca (hhi : hi ≤ w.heap.size) (hg : g < w.heap.size) (hb : Below W.heap.size W w') (h : W.cell? ⟨g, n, none⟩ = some v ∧ OwnI W lo hi p xs ∧ Below w.heap.size w W) : w'.cell? ⟨g, n, none⟩ = some v ∧ OwnI w' lo hi p xs ∧ Below w.heap.size w w' :=
  sk_below hhi hg (hb.mono h.2.2.size) h
end
theorem row_oneB (W : World) (x : Int) (b base : Nat) (hb : b = W.heap.size) (hbase : base ≤ W.heap.size) : (W.alloc (.cells #[.int .i64 x] 3)).ownsRow base 3 1 (.slice (some ⟨b, 0, none⟩) 1 1) 1 [.int .i64 x] := by
  subst hb
  exact ⟨rfl, .inr ⟨W.heap.size, 1, _, rfl, hbase, heap_alloc_new W _, Nat.le_refl _, by decide, rfl, rfl⟩⟩
/-- A row behind a row of this call's own, in a region; the second one may be empty. -/
theorem stepAppA {w : World} {ops : Array Oper} {o : Oper} {a : Act} {K : Act → World → Prop} {Q : Exit → Act → World → Prop} {E : Prop} (hgd : o.guard = none) (s x : Operand)
    (ho : o.op = .call { callee := .builtin .append, args := #[s, x], argTypes := #[31, 31] })
    (base : Nat) (v : Value) (n : Nat) (xs ys : List Int) (hs : a.eval s = v) (hown : w.ownsRow base 3 1 v n (xs.map (Value.int .i64)))
    (ad : Addr) (m c : Nat) (hx : a.eval x = .slice (some ad) m c) (hm : ys.length = m) (hy : ∀ j, j < m → w.cell? (ad.add j) = some (.int .i64 (ys.getD j 0)))
    (hn : n ≤ 1099511627776) (hm2 : m ≤ 1099511627776) (hbase : base ≤ w.heap.size)
    (h : ∀ v' w', w'.ownsRow base 3 1 v' (n + m) ((xs ++ ys).map (Value.int .i64)) → w.grownBy w' v.ownBlock → K (a.put o.dst v') w') :
    if Region.wanted o (yielded ops a.tmps) = true then Oper.wp Try.prog o a w K Q else E := by
  have hw : Region.wanted o (yielded ops a.tmps) = true := by simp [Region.wanted, hgd]
  rw [if_pos hw]
  obtain ⟨i0, hi, hz0, hz1, hz2⟩ := info_parts info3
  refine wp_append_own w s x 31 ho base 3 i0 (.int .i64 0) 1 8 Try.underlying31 hi hz0 hz1 hz2 rfl (by decide) v n _ hs hown ad m c (ys.map (Value.int .i64)) hx (by simpa using hm) ?_ ?_ (by unfold maxLen; omega) (by omega) hbase ?_
  · intro j u hj
    rw [List.getElem?_map] at hj
    cases hq : ys[j]? with
    | none => rw [hq] at hj; cases hj
    | some z =>
      rw [hq] at hj
      have hjl : j < ys.length := (List.getElem?_eq_some_iff.1 hq).1
      have := hy j (by omega)
      rw [List.getD_eq_getElem?_getD, hq] at this
      simp only [Option.map_some, Option.some.injEq] at hj
      rw [← hj]; exact this
  · intro u hu
    obtain ⟨y, -, rfl⟩ := List.mem_map.1 hu
    rfl
  · intro v' w' h1 h2 _
    exact h v' w' (by simpa using h1) h2

/-- slices.Grow of nothing: a row of this call's own with no element yet. -/
def GrAns (w : World) (e : Ending) (w' : World) : Prop := ∃ v, e = .returned v ∧ w'.ownsRow w.heap.size 3 1 v 0 (([] : List Int).map (Value.int .i64)) ∧ Below w.heap.size w w'
theorem wpAppZ {w : World} {ops : Array Oper} {rest : List Oper} {o : Oper} {a : Act} {Q : Exit → Act → World → Prop} (hgd : o.guard = none) (s x : Operand)
    (ho : o.op = .call { callee := .builtin .append, args := #[s, x], argTypes := #[31, 3] })
    (n : Nat) (hs : a.eval s = .slice none 0 0) (hx : a.eval x = .int .i64 (n : Int)) (h0 : 0 < n) (hn : n ≤ 1099511627)
    (h : ∀ c w', w'.ownsRow w.heap.size 3 1 (.slice (some ⟨w.heap.size, 0, none⟩) 0 c) 0 (([] : List Int).map (Value.int .i64)) → Below w.heap.size w w' → wpList Try.prog ops Q rest (a.put o.dst (.slice (some ⟨w.heap.size, 0, none⟩) n c)) w') : wpList Try.prog ops Q (o :: rest) a w := by
  obtain ⟨i0, hi0, hz0, hz1, hz2⟩ := info_parts info3
  refine wpList_plain hgd fun K hK => ?_
  have hr := Lib.run_append_nil_zeros (P := Try.prog) w 31 3 o.type 3 i0 (.int .i64 0) .i64 .i64 Try.underlying31 Try.underlying3 hi0 hz0 n h0 (by omega) (by omega) (by rw [hz2]; omega)
  have hge := grownCap_ge w n 0 3
  have hle := grownCap_le_maxLen w n 0 3 (by unfold maxLen; omega)
  unfold Oper.wp execOp
  simp only [ho, resolve, invoke, builtin, Sem.run_bind, Sem.run_pure, Result.andThen_ok, List.map_toArray, List.map_cons, List.map_nil, hs, hx, hr]
  refine hK _ _ (h _ _ ⟨rfl, .inr ⟨w.heap.size, _, _, rfl, Nat.le_refl _, heap_alloc_new w.drew _, Nat.zero_le _, hle, ?_, rfl⟩⟩ ((below_drewN (Below.refl _ w) 1).alloc (Nat.le_refl _) _))
  rw [Array.size_append, size_zeroCells, size_zeroCells]
  show n * 1 + (grownCap w n 0 3 - n) * 1 = grownCap w n 0 3 * 1
  omega
/-- A row behind a row of this call's own; the second one may be empty. -/
theorem wpAppA {w : World} {ops : Array Oper} {rest : List Oper} {o : Oper} {a : Act} {Q : Exit → Act → World → Prop} (hgd : o.guard = none) (s x : Operand)
    (ho : o.op = .call { callee := .builtin .append, args := #[s, x], argTypes := #[31, 31] })
    (base : Nat) (v : Value) (n : Nat) (xs ys : List Int) (hs : a.eval s = v) (hown : w.ownsRow base 3 1 v n (xs.map (Value.int .i64)))
    (b off m c : Nat) (hx : a.eval x = .slice (some ⟨b, off, none⟩) m c) (hm : ys.length = m) (hy : ∀ j, j < m → w.cell? ⟨b, off + j, none⟩ = some (.int .i64 (ys.getD j 0)))
    (hn : n ≤ 1099511627776) (hm2 : m ≤ 1099511627776) (hbase : base ≤ w.heap.size)
    (h : ∀ v' w', w'.ownsRow base 3 1 v' (n + m) ((xs ++ ys).map (Value.int .i64)) → w.grownBy w' v.ownBlock → wpList Try.prog ops Q rest (a.put o.dst v') w') : wpList Try.prog ops Q (o :: rest) a w := by
  obtain ⟨i0, hi, hz0, hz1, hz2⟩ := info_parts info3
  refine wpList_append_own _ hgd s x 31 ho base 3 i0 (.int .i64 0) 1 8 Try.underlying31 hi hz0 hz1 hz2 rfl (by decide) v n _ hs hown ⟨b, off, none⟩ m c (ys.map (Value.int .i64)) hx (by simpa using hm) ?_ ?_ (by unfold maxLen; omega) (by omega) hbase ?_
  · intro j u hj
    rw [List.getElem?_map] at hj
    cases hq : ys[j]? with
    | none => rw [hq] at hj; cases hj
    | some z =>
      rw [hq] at hj
      have hjl : j < ys.length := (List.getElem?_eq_some_iff.1 hq).1
      have := hy j (by omega)
      rw [List.getD_eq_getElem?_getD, hq] at this
      simp only [Option.map_some, Option.some.injEq] at hj
      rw [← hj, Addr.add_lit]; exact this
  · intro u hu
    obtain ⟨y, -, rfl⟩ := List.mem_map.1 hu
    rfl
  · intro v' w' h1 h2 _
    exact h v' w' (by simpa using h1) h2
theorem below_fresh8 (w : World) (o : Obj) : Below w.heap.size w (w.alloc o) := (Below.refl _ w).alloc (Nat.le_refl _) o
/-- v is a slice of the ints xs somewhere, at a flat address where it has any. -/
def FlatI (w : World) (v : Value) (xs : List Int) : Prop := ∃ (b off cap : Nat), v = .slice (some ⟨b, off, none⟩) xs.length cap ∧ b < w.heap.size ∧ ∀ j, j < xs.length → w.cell? ⟨b, off + j, none⟩ = some (.int .i64 (xs.getD j 0))
theorem FlatI.keep {w w' : World} {v : Value} {xs : List Int} {B : Nat} (h : FlatI w v xs) (hb : Below B w w') (hB : w.heap.size ≤ B) : FlatI w' v xs := by
  obtain ⟨b, off, cap, e, h1, h2⟩ := h
  exact ⟨b, off, cap, e, Nat.lt_of_lt_of_le h1 hb.size, fun j hj => (hb.cell (p := ⟨b, off + j, none⟩) (Nat.lt_of_lt_of_le h1 hB)).trans (h2 j hj)⟩
theorem run_fromI (w : World) (g n len cap : Nat) (hn : n ≤ len) (hc : n < cap) : (Instr.slice 31 (.slice (some ⟨g, 0, none⟩) len cap) (some (.int .i64 (n : Int))) none none).run Try.prog w = .ok (.slice (some ⟨g, n, none⟩) (len - n) (cap - n)) w := by
  obtain ⟨i0, hi, -, -, -⟩ := info_parts info3
  have he : Try.prog.elem 31 = 3 := by kernel_rfl
  have hcc : Try.prog.cellsOf 3 = 1 := by kernel_rfl
  have hu : Try.prog.underlying 31 = some (.slice (Try.prog.elem 31)) := by rw [he]; exact Try.underlying31
  rw [run_slice_l w _ _ len cap hu .i64 (n : Int) (by omega) (by omega), he, run_sizeOf w hi, hcc]
  have h1 : ¬ cap = n := by omega
  simp [sliced, Result.andThen, Addr.add_lit, h1]
theorem tp_ca {w W w' : World} (hb : Below W.heap.size W w') (h : Below w.heap.size w W) : Below w.heap.size w w' := h.trans (hb.mono h.size)
end Go.Proofs.Ytefbbkogfoongaa
