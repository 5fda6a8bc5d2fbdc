/- The contracts of the laws' copy of a row of ints and of the model's PathOfHeights; the law of PathOfHeights. -/
import Derived.Test.YtpggglcjocnjlaaGreatSpec2E
import Derived.Test.YtpggglcjocnjlaaGreatLawLists
namespace Go.Proofs.YtpggglcjocnjlaaGreat
open Go.ChangeShapes Go.WideShapes Go.ChangeAt Go.RowKit
open Go.PlainAid (bt bt_nonneg bt_le get_bt)
set_option linter.unusedVariables false

/-- v is a slice whose ints are xs, wherever they lie. -/
def ArgI (w : World) (v : Value) (xs : List Int) : Prop :=
  ∃ A cap, v = .slice A xs.length cap ∧ ∀ j, j < xs.length → ∃ a : Addr, A = some a ∧ a.block < w.heap.size ∧ w.cell? (a.add j) = some (.int .i64 (xs.getD j 0))
theorem add_flat (g j : Nat) : Addr.add ⟨g, 0, none⟩ j = ⟨g, j, none⟩ := by
  unfold Addr.add
  split <;> simp_all
theorem add_block (a : Addr) (j : Nat) : (a.add j).block = a.block := by
  unfold Addr.add
  split <;> rfl
theorem add_succ (a : Addr) (j : Nat) : a.add (j + 1) = ⟨a.block, a.off + (j + 1), none⟩ := by
  unfold Addr.add
  rw [if_neg (by omega)]
theorem ArgI.of_own {w : World} {lo hi : Nat} {v : Value} {xs : List Int} (h : OwnI w lo hi v xs) (hh : hi ≤ w.heap.size) : ArgI w v xs := by
  obtain ⟨A, cap, e, k⟩ := id h
  refine ⟨A, cap, e, fun j hj => ?_⟩
  obtain ⟨g, c, e', h1, h2, h3, -⟩ := h.cell hj
  rw [e] at e'
  simp only [Value.slice.injEq] at e'
  refine ⟨⟨g, 0, none⟩, e'.1, Nat.lt_of_lt_of_le h2 hh, ?_⟩
  rw [add_flat]; exact h3
theorem ArgI.keep {w w' : World} {v : Value} {xs : List Int} (h : ArgI w v xs) (hb : Below w.heap.size w w') : ArgI w' v xs := by
  obtain ⟨A, cap, e, k⟩ := h
  refine ⟨A, cap, e, fun j hj => ?_⟩
  obtain ⟨a, h1, h2, h3⟩ := k j hj
  exact ⟨a, h1, Nat.lt_of_lt_of_le h2 hb.size, (hb.cell (p := a.add j) (by rw [add_block]; exact h2)).trans h3⟩

/-- The copy when j places have been filled. -/
def cpL (j : Nat) (xs : List Int) : List Int := (List.range xs.length).map fun (i : Nat) => if i < j then xs.getD i 0 else 0
theorem cpL_len (j : Nat) (xs : List Int) : (cpL j xs).length = xs.length := by simp [cpL]
theorem cpL_at (j i : Nat) (xs : List Int) (h : i < xs.length) : (cpL j xs).getD i 0 = if i < j then xs.getD i 0 else 0 := by simp [cpL, List.getD, h]
theorem cpL_all (xs : List Int) : cpL xs.length xs = xs := by
  apply List.ext_getElem
  · rw [cpL_len]
  · intro i h1 h2
    simp [cpL, List.getD, h2]
theorem made_zero (xs : List Int) : (madeCells (Value.int .i64 0).cells (xs.length * 1)).toList = (cpL 0 xs).map (Value.int .i64) := by
  apply List.ext_getElem
  · simp [cpL, size_madeCells]
  · intro i h1 h2
    simp [cpL, madeCells, Value.cells, Nat.mod_one]

/-- Two heights that stand beside each other in a path. -/
def okAt (xs : List Int) (j : Nat) : Prop := 0 ≤ xs.getD (j + 1) 0 ∧ xs.getD (j + 1) 0 ≤ 8 ∧ 0 ≤ xs.getD j 0 ∧ xs.getD j 0 ≤ 8 ∧ (xs.getD (j + 1) 0 - xs.getD j 0 = 1 ∨ xs.getD (j + 1) 0 - xs.getD j 0 = -1)
def stepC (xs : List Int) (j : Nat) : UInt8 := if xs.getD (j + 1) 0 - xs.getD j 0 = 1 then 117 else 100
def stepsL (xs : List Int) : Nat → List UInt8
  | 0 => []
  | j + 1 => stepsL xs j ++ [stepC xs j]
theorem stepsL_len (xs : List Int) (j : Nat) : (stepsL xs j).length = j := by
  induction j with
  | zero => rfl
  | succ j ih => rw [stepsL, List.length_append, ih]; rfl
def pohW (xs : List Int) : ByteArray := ⟨(stepsL xs (xs.length - 1)).toArray⟩
def pohGood (xs : List Int) : Prop := (∀ j, j + 1 < xs.length → okAt xs j) ∧ 0 < xs.length ∧ xs.getD 0 0 = 0 ∧ dyck (pohW xs) = true
open Classical in
noncomputable def pohOk (xs : List Int) : Bool := decide (pohGood xs)
noncomputable def pohP (xs : List Int) : ByteArray := if pohOk xs = true then pohW xs else ⟨#[]⟩
open Classical in
theorem poh_no {xs : List Int} (h : ¬ pohGood xs) : pohOk xs = false ∧ pohP xs = ⟨#[]⟩ := by
  have : pohOk xs = false := by unfold pohOk; exact decide_eq_false h
  exact ⟨this, by unfold pohP; rw [this]; rfl⟩
open Classical in
theorem poh_yes {xs : List Int} (h : pohGood xs) : pohOk xs = true ∧ pohP xs = pohW xs := by
  have : pohOk xs = true := by unfold pohOk; exact decide_eq_true h
  exact ⟨this, by unfold pohP; rw [this]; rfl⟩
theorem poh_not_at {xs : List Int} {j : Nat} (hj : j + 1 < xs.length) (h : ¬ okAt xs j) : pohOk xs = false ∧ pohP xs = ⟨#[]⟩ := poh_no fun hg => h (hg.1 j hj)

end Go.Proofs.YtpggglcjocnjlaaGreat
