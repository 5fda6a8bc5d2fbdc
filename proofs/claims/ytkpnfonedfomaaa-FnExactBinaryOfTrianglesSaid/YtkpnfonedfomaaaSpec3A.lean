/- The contract of the model's l3Ways: a table of rows that the call owns. -/
import Derived.Test.YtkpnfonedfomaaaSpec2G
import Derived.BigRegion
namespace Go.Proofs.Ytkpnfonedfomaaa
open Go.ChangeShapes Go.WideShapes Go.ChangeAt Go.RowKit
set_option linter.unusedVariables false

/-- Sums of f from a on, up to k. -/
def sm (f : Nat → Int) (a : Nat) : Nat → Int
  | 0 => if a = 0 then f 0 else 0
  | k + 1 => sm f a k + if a ≤ k + 1 then f (k + 1) else 0
theorem sm_low (f : Nat → Int) (a : Nat) : ∀ k, k < a → sm f a k = 0 := by
  intro k
  induction k with
  | zero => intro h; rw [sm, if_neg (by omega)]
  | succ k ih => intro h; rw [sm, if_neg (by omega), ih (by omega)]; rfl
theorem sm_bd (f : Nat → Int) (a : Nat) (B : Int) (hB : 0 ≤ B) (n : Nat) : ∀ k, k ≤ n → (∀ m, m ≤ n → 0 ≤ f m ∧ f m ≤ B) → 0 ≤ sm f a k ∧ sm f a k ≤ (k + 1) * B := by
  intro k
  induction k with
  | zero =>
    intro hk h
    have := h 0 (by omega)
    rw [sm]; split <;> simp <;> omega
  | succ k ih =>
    intro hk h
    have h1 := ih (by omega) h
    have h2 := h (k + 1) hk
    have e : ((k + 1 : Nat) : Int) + 1 = ((k : Int) + 1) + 1 := by omega
    rw [sm, e, Int.add_mul, Int.one_mul]
    split <;> omega
/-- The words of i letters u and k letters d, by their last letters. -/
def wy : Nat → Nat → Int
  | 0 => fun _ => 1
  | i + 1 => sm (wy i) (i + 1)
theorem wy_zero (k : Nat) : wy 0 k = 1 := rfl
theorem wy_low (i k : Nat) (h : k < i) : wy i k = 0 := by
  cases i with
  | zero => omega
  | succ i => exact sm_low _ _ _ h
theorem wy_diag (i : Nat) : wy (i + 1) (i + 1) = wy i (i + 1) := by
  show sm (wy i) (i + 1) (i + 1) = _
  rw [sm, if_pos (Nat.le_refl _), sm_low _ _ _ (by omega)]; omega
theorem wy_step (i k : Nat) (h : i + 1 < k + 1) : wy (i + 1) (k + 1) = wy i (k + 1) + wy (i + 1) k := by
  show sm (wy i) (i + 1) (k + 1) = _
  rw [sm, if_pos (by omega)]
  show sm (wy i) (i + 1) k + _ = _ + sm (wy i) (i + 1) k
  omega
theorem wy_bd : ∀ (i : Nat) (k : Nat), k ≤ 15 → 0 ≤ wy i k ∧ wy i k ≤ 16 ^ i := by
  intro i
  induction i with
  | zero => intro k hk; rw [wy_zero]; decide
  | succ i ih =>
    intro k hk
    have hp : (0 : Int) ≤ 16 ^ i := Int.le_of_lt (Int.pow_pos (by decide))
    have h := sm_bd (wy i) (i + 1) (16 ^ i) hp 15 k hk ih
    refine ⟨h.1, Int.le_trans h.2 ?_⟩
    rw [Int.pow_succ, Int.mul_comm _ 16]
    exact Int.mul_le_mul_of_nonneg_right (by omega) hp
theorem wy_fit (i k : Nat) (hi : i ≤ 15) (hk : k ≤ 15) : 0 ≤ wy i k ∧ wy i k ≤ 1152921504606846976 := by
  have h := wy_bd i k hk
  refine ⟨h.1, Int.le_trans h.2 ?_⟩
  have : (16 : Int) ^ i ≤ 16 ^ 15 := by
    have h1 : (16 : Nat) ^ i ≤ 16 ^ 15 := Nat.pow_le_pow_right (by decide) hi
    exact_mod_cast h1
  exact Int.le_trans this (by decide)

/-- Block g holds a row of ints that reads f at the places up to d. -/
def RowI (w : World) (g d : Nat) (f : Nat → Int) : Prop := ∃ C, w.heap[g]? = some (.cells C 3 (0, 0)) ∧ ∀ k, k ≤ d → C[k]? = some (.int .i64 (f k))
theorem RowI.lt {w : World} {g d : Nat} {f : Nat → Int} (h : RowI w g d f) : g < w.heap.size := by
  obtain ⟨C, h1, -⟩ := h
  exact (Array.getElem?_eq_some_iff.1 h1).1
theorem RowI.cell {w : World} {g d : Nat} {f : Nat → Int} (h : RowI w g d f) {k : Nat} (hk : k ≤ d) : w.cell? ⟨g, k, none⟩ = some (.int .i64 (f k)) ∧ w.frozen? ⟨g, k, none⟩ = false := by
  obtain ⟨C, h1, h2⟩ := h
  refine ⟨?_, by simp [World.frozen?, h1]⟩
  rw [cell_of_row w g k C 3 (0, 0) h1]
  exact h2 k hk
theorem RowI.keep {w w' : World} {g d : Nat} {f : Nat → Int} (h : RowI w g d f) (e : w'.heap[g]? = w.heap[g]?) : RowI w' g d f := by
  obtain ⟨C, h1, h2⟩ := h
  exact ⟨C, e.trans h1, h2⟩
theorem RowI.other {w : World} {g d g' k : Nat} {f : Nat → Int} (h : RowI w g d f) (hne : g' ≠ g) (y : Value) : RowI (w.setCell ⟨g', k, none⟩ y) g d f :=
  h.keep (by simp [World.setCell, Array.getElem?_modify, hne])
theorem RowI.set {w : World} {g d k : Nat} {f f' : Nat → Int} {y : Int} (h : RowI w g d f) (hk : k ≤ d) (hy : f' k = y) (ho : ∀ q, q ≤ d → q ≠ k → f' q = f q) : RowI (w.setCell ⟨g, k, none⟩ (.int .i64 y)) g d f' := by
  obtain ⟨C, h1, h2⟩ := h
  refine ⟨C.setIfInBounds k (.int .i64 y), by simp [World.setCell, Array.getElem?_modify, h1], fun q hq => ?_⟩
  by_cases e : q = k
  · subst e
    have hC : q < C.size := (Array.getElem?_eq_some_iff.1 (h2 q hk)).1
    rw [Array.getElem?_setIfInBounds_self_of_lt hC, hy]
  · rw [Array.getElem?_setIfInBounds_ne (by omega), h2 q hq, ho q hq e]
theorem RowI.same {w : World} {g d : Nat} {f f' : Nat → Int} (h : RowI w g d f) (ho : ∀ q, q ≤ d → f' q = f q) : RowI w g d f' := by
  obtain ⟨C, h1, h2⟩ := h
  exact ⟨C, h1, fun q hq => by rw [h2 q hq, ho q hq]⟩
theorem RowI.made {w : World} {base g d : Nat} (h : w.ownsRow base 3 1 (.slice (some ⟨g, 0, none⟩) (d + 1) (d + 1)) (d + 1) (madeCells (Value.int .i64 0).cells ((d + 1) * 1)).toList) : RowI w g d fun _ => 0 := by
  rcases h.2 with ⟨e, -⟩ | ⟨g', cap, cur, e, hb, hh, hnc, hcm, hcur, htake⟩
  · cases e
  · simp only [Value.slice.injEq, Option.some.injEq, Addr.mk.injEq] at e
    obtain ⟨⟨rfl, -⟩, -, rfl⟩ := e
    refine ⟨cur, hh, fun k hk => ?_⟩
    have e1 : cur.toList[k]? = (cur.toList.take ((d + 1) * 1))[k]? := by rw [List.getElem?_take, if_pos (by omega)]
    rw [← Array.getElem?_toList, e1, htake]
    rw [List.getElem?_eq_getElem (by simp [size_madeCells]; omega)]
    simp [madeCells, Value.cells, Nat.mod_one]

theorem infoR : (Try.prog.info? 35).map (fun i => (i.zero, i.size, i.bytes)) = some (some (.slice none 0 0), 1, 24) := by kernel_rfl
def rowV (d g : Nat) : Value := .slice (some ⟨g, 0, none⟩) (d + 1) (d + 1)
/-- v is the table: its rows are the blocks gs. -/
def OutR (w : World) (base d : Nat) (v : Value) (gs : List Nat) : Prop := w.ownsRow base 35 1 v gs.length (gs.map (rowV d))
theorem OutR.cell {w : World} {base d : Nat} {v : Value} {gs : List Nat} (h : OutR w base d v gs) {j : Nat} (hj : j < gs.length) :
    ∃ o cap, v = .slice (some ⟨o, 0, none⟩) gs.length cap ∧ base ≤ o ∧ w.cell? ⟨o, j, none⟩ = some (rowV d (gs.getD j 0)) ∧ ∃ cur, w.heap[o]? = some (.cells cur 35 (0, 0)) := by
  rcases h.2 with ⟨-, e⟩ | ⟨o, cap, cur, e, hb, hh, hnc, hcm, hcur, htake⟩
  · omega
  · refine ⟨o, cap, e, hb, ?_, cur, hh⟩
    rw [cell_of_row w o j cur 35 (0, 0) hh]
    have e1 : cur.toList[j]? = (cur.toList.take (gs.length * 1))[j]? := by rw [List.getElem?_take, if_pos (by omega)]
    rw [← Array.getElem?_toList, e1, htake, List.getElem?_map]
    simp [List.getD, hj]
theorem OutR.own {w : World} {base d : Nat} {v : Value} {gs : List Nat} (h : OutR w base d v gs) {o : Nat} (ho : v.ownBlock = some o) : ∃ cur, w.heap[o]? = some (.cells cur 35 (0, 0)) := by
  rcases h.2 with ⟨e, -⟩ | ⟨o', cap, cur, e, hb, hh, -⟩
  · subst e; cases ho
  · subst e
    simp only [Value.ownBlock, Option.some.injEq] at ho
    subst ho
    exact ⟨cur, hh⟩
theorem OutR.keep {w w' : World} {base d : Nat} {v : Value} {gs : List Nat} (h : OutR w base d v gs) (hb : ∀ o, v.ownBlock = some o → w'.heap[o]? = w.heap[o]?) : OutR w' base d v gs := by
  refine ⟨h.1, ?_⟩
  rcases h.2 with e | ⟨o, cap, cur, e, h1, h2, h3⟩
  · exact .inl e
  · exact .inr ⟨o, cap, cur, e, h1, (hb o (by rw [e]; rfl)).trans h2, h3⟩
theorem OutR.ne {w : World} {base d g n : Nat} {v : Value} {gs : List Nat} {f : Nat → Int} (h : OutR w base d v gs) (hr : RowI w g n f) : v.ownBlock ≠ some g := by
  intro e
  obtain ⟨cur, h1⟩ := h.own e
  obtain ⟨C, h2, -⟩ := hr
  rw [h1] at h2
  simp at h2
theorem OutR.set {w : World} {base d g n k : Nat} {v : Value} {gs : List Nat} {f : Nat → Int} (h : OutR w base d v gs) (hr : RowI w g n f) (y : Value) : OutR (w.setCell ⟨g, k, none⟩ y) base d v gs :=
  h.keep fun o ho => by
    have : g ≠ o := fun e => h.ne hr (by rw [e]; exact ho)
    simp [World.setCell, Array.getElem?_modify, this]

/-- One row appended to a table that the call owns. -/
theorem wpAppRow {w : World} {ops : Array Oper} {rest : List Oper} {o : Oper} {a : Act} {Q : Exit → Act → World → Prop} (hgd : o.guard = none) (s x : Operand)
    (ho : o.op = .call { callee := .builtin .append, args := #[s, x], argTypes := #[22, 22] })
    (base d : Nat) (v : Value) (gs : List Nat) (hs : a.eval s = v) (hown : OutR w base d v gs)
    (b : Nat) (c : Nat) (g : Nat) (hx : a.eval x = .slice (some ⟨b, 0, none⟩) 1 c) (hcell : w.cell? ⟨b, 0, none⟩ = some (rowV d g))
    (hn : gs.length ≤ 1099511627776) (hbase : base ≤ w.heap.size)
    (h : ∀ v' w', OutR w' base d v' (gs ++ [g]) → w.grownBy w' v.ownBlock → wpList Try.prog ops Q rest (a.put o.dst v') w') : wpList Try.prog ops Q (o :: rest) a w := by
  obtain ⟨i0, hi, hz0, hz1, hz2⟩ := info_parts infoR
  refine wpList_append_own _ hgd s x 22 ho base 35 i0 (.slice none 0 0) 1 24 Try.underlying22 hi hz0 hz1 hz2 rfl (by decide) v gs.length _ hs hown ⟨b, 0, none⟩ 1 c [rowV d g] hx rfl ?_ ?_ (by unfold maxLen; omega) (by omega) hbase ?_
  · intro j u hj
    match j, hj with
    | 0, hj => simp at hj; subst hj; simpa [Addr.add] using hcell
  · intro u hu; simp at hu; subst hu; rfl
  · intro v' w' h1 h2 _
    exact h v' w' (by unfold OutR; simpa using h1) h2

end Go.Proofs.Ytkpnfonedfomaaa
