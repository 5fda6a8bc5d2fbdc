/- The matching of a partition, plain. -/
import Derived.Test.YtfpknljgmpgneaaFact8B
import Derived.Test.YtfpknljgmpgneaaSpec8B
import Derived.Test.YtfpknljgmpgneaaTblL
namespace Go.Proofs.Ytfpknljgmpgneaa
open Go.ChangeShapes Go.WideShapes Go.ChangeAt Go.RowKit
set_option linter.unusedVariables false

/-- Behind the k-th element of a block, before the next one. -/
def mpS (row : List Int) (k : Nat) (L : List Int) : List Int :=
  (L.set (2 * row.getD k 0 + 1).toNat (2 * row.getD ((k + 1) % row.length) 0)).set (2 * row.getD ((k + 1) % row.length) 0).toNat (2 * row.getD k 0 + 1)
def mpR (row : List Int) : Nat → List Int → List Int
  | 0, L => L
  | k + 1, L => mpS row k (mpR row k L)
def mpB (ls : List (List Int)) : Nat → List Int → List Int
  | 0, L => L
  | j + 1, L => mpR (ls.getD j []) (ls.getD j []).length (mpB ls j L)
theorem mpS_len (row : List Int) (k : Nat) (L : List Int) : (mpS row k L).length = L.length := by unfold mpS; rw [List.length_set, List.length_set]
theorem mpR_len (row : List Int) (L : List Int) : ∀ k, (mpR row k L).length = L.length := by
  intro k
  induction k with
  | zero => rfl
  | succ k ih => rw [mpR, mpS_len, ih]
theorem mpB_len (ls : List (List Int)) (L : List Int) : ∀ j, (mpB ls j L).length = L.length := by
  intro j
  induction j with
  | zero => rfl
  | succ j ih => rw [mpB, mpR_len, ih]
noncomputable def mopP (xs : List Int) : List Int := if nonB xs = true then mpB (blP xs) (blP xs).length (List.replicate (2 * xs.length) 0) else []
theorem mop_yes {xs : List Int} (h : nonB xs = true) : mopP xs = mpB (blP xs) (blP xs).length (List.replicate (2 * xs.length) 0) := if_pos h
theorem mop_no {xs : List Int} (h : nonB xs = false) : mopP xs = [] := if_neg (by simp [h])
theorem mop_len (xs : List Int) : (mopP xs).length ≤ 2 * xs.length := by
  unfold mopP; split
  · rw [mpB_len, List.length_replicate]; exact Nat.le_refl _
  · simp
/-- What stands in the blocks of a partition. -/
theorem bl_bd {xs : List Int} (h : prtB xs = true) (j k : Nat) (hk : k < ((blP xs).getD j []).length) : 0 ≤ ((blP xs).getD j []).getD k 0 ∧ ((blP xs).getD j []).getD k 0 < (xs.length : Int) := by
  have hr : (blP xs).getD j [] = plN xs j xs.length := by
    unfold blP; rw [if_pos h]; exact blN_rows xs xs.length (fun i hi => (prt_yes h).2 i hi) j
  rw [hr] at hk ⊢
  have hm : (plN xs j xs.length).getD k 0 ∈ plN xs j xs.length := by
    rw [List.getD_eq_getElem?_getD, List.getElem?_eq_getElem hk]; exact List.getElem_mem hk
  unfold plN at hm
  obtain ⟨i, hi, e⟩ := List.mem_map.1 hm
  have := List.mem_range.1 (List.mem_filter.1 hi).1
  unfold plN
  omega
theorem bl_len {xs : List Int} (h : prtB xs = true) (j : Nat) : ((blP xs).getD j []).length ≤ 8 ∧ (blP xs).length ≤ 8 := by
  have h8 := (prt_yes h).1
  unfold blP; rw [if_pos h]
  exact ⟨Nat.le_trans (blN_row xs xs.length j) h8, by rw [blN_len]; have := ptN_le xs xs.length; omega⟩
theorem OwnT.eqs' {w w' : World} {lo hi : Nat} {v : Value} {ls : List (List Int)} (h : OwnT w lo hi v ls) (he : ∀ b, lo ≤ b → b < hi → w'.heap[b]? = w.heap[b]?) : OwnT w' lo hi v ls := by
  obtain ⟨A, cap, e, h⟩ := h
  refine ⟨A, cap, e, fun j hj => ?_⟩
  obtain ⟨o, rv, h1, h2, h3, h4, h5⟩ := h j hj
  refine ⟨o, rv, h1, h2, h3, (World.cell?_of_block (he o h2 h3)).trans h4, ?_⟩
  obtain ⟨A2, c2, e2, h6⟩ := h5
  refine ⟨A2, c2, e2, ?_⟩
  rcases h6 with h6 | ⟨g, C, a1, a2, a3, a4, a5⟩
  · exact .inl h6
  · exact .inr ⟨g, C, a1, a2, a3, (he g a1 a2).trans a4, a5⟩
theorem OwnI.eqs' {w w' : World} {lo hi : Nat} {v : Value} {xs : List Int} (h : OwnI w lo hi v xs) (he : ∀ b, lo ≤ b → b < hi → w'.heap[b]? = w.heap[b]?) : OwnI w' lo hi v xs := by
  obtain ⟨A2, c2, e2, h6⟩ := h
  refine ⟨A2, c2, e2, ?_⟩
  rcases h6 with h6 | ⟨g, C, a1, a2, a3, a4, a5⟩
  · exact .inl h6
  · exact .inr ⟨g, C, a1, a2, a3, (he g a1 a2).trans a4, a5⟩
theorem set_ne (w : World) {g q b : Nat} (h : b ≠ g) (y : Value) : (w.setCell ⟨g, q, none⟩ y).heap[b]? = w.heap[b]? := by
  simp [World.setCell, Array.getElem?_modify, Ne.symm h]

end Go.Proofs.Ytfpknljgmpgneaa
