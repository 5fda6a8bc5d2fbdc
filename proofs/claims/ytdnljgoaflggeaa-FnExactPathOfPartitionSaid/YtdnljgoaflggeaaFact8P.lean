/- The path of a partition, plain. -/
import Derived.Test.YtdnljgoaflggeaaFact8B
import Derived.Test.YtdnljgoaflggeaaSpec8B
import Derived.Test.YtdnljgoaflggeaaTblL
namespace Go.Proofs.Ytdnljgoaflggeaa
open Go.ChangeShapes Go.WideShapes Go.ChangeAt Go.RowKit
set_option linter.unusedVariables false

/-- The block of the element i. -/
def rowOf (xs : List Int) (i : Nat) : List Int := (blP xs).getD (xs.getD i 0).toNat []
/-- The letters of the first i elements. -/
def ppaS (xs : List Int) (i : Nat) : List UInt8 := if (rowOf xs i).getD ((rowOf xs i).length - 1) 0 = (i : Int) then List.replicate (rowOf xs i).length 100 else []
def ppaL (xs : List Int) : Nat → List UInt8
  | 0 => []
  | i + 1 => (ppaL xs i ++ [117]) ++ ppaS xs i
noncomputable def popa (xs : List Int) : ByteArray := if nonB xs = true then ⟨(ppaL xs xs.length).toArray⟩ else ⟨#[]⟩
theorem popa_yes {xs : List Int} (h : nonB xs = true) : popa xs = ⟨(ppaL xs xs.length).toArray⟩ := if_pos h
theorem popa_no {xs : List Int} (h : nonB xs = false) : popa xs = ⟨#[]⟩ := if_neg (by simp [h])
theorem non_prt {xs : List Int} (h : nonB xs = true) : prtB xs = true := by unfold nonB at h; rw [Bool.and_eq_true] at h; exact h.1
theorem ptN_mono (xs : List Int) (i : Nat) : ∀ k, ptN xs i ≤ ptN xs (i + k) := by
  intro k
  induction k with
  | zero => exact Nat.le_refl _
  | succ k ih => refine Nat.le_trans ih ?_; rw [show i + (k + 1) = (i + k) + 1 by omega, ptN]; split <;> omega
theorem row_eqP {xs : List Int} (h : prtB xs = true) (j : Nat) : (blP xs).getD j [] = plN xs j xs.length := by
  unfold blP; rw [if_pos h]; exact blN_rows xs xs.length (fun i hi => (prt_yes h).2 i hi) j
theorem blP_len {xs : List Int} (h : prtB xs = true) : (blP xs).length = ptN xs xs.length := by unfold blP; rw [if_pos h, blN_len]
theorem blk_in {xs : List Int} (h : prtB xs = true) {i : Nat} (hi : i < xs.length) : 0 ≤ xs.getD i 0 ∧ (xs.getD i 0).toNat < (blP xs).length := by
  obtain ⟨h0, h1⟩ := (prt_yes h).2 i hi
  rw [blP_len h]
  have h2 := ptN_mono xs (i + 1) (xs.length - (i + 1))
  rw [show i + 1 + (xs.length - (i + 1)) = xs.length by omega] at h2
  have h3 : ptN xs (i + 1) = if xs.getD i 0 = (ptN xs i : Int) then ptN xs i + 1 else ptN xs i := rfl
  split at h3 <;> omega
theorem rowOf_bd {xs : List Int} (h : prtB xs = true) {i : Nat} (hi : i < xs.length) : 1 ≤ (rowOf xs i).length ∧ (rowOf xs i).length ≤ 8 := by
  have h8 := (prt_yes h).1
  have h0 := (blk_in h hi).1
  unfold rowOf
  rw [row_eqP h]
  have hm : (i : Int) ∈ plN xs (xs.getD i 0).toNat xs.length := by
    unfold plN
    exact List.mem_map.2 ⟨i, List.mem_filter.2 ⟨List.mem_range.2 hi, decide_eq_true (by omega)⟩, rfl⟩
  refine ⟨List.length_pos_of_mem hm, ?_⟩
  unfold plN
  rw [List.length_map]
  exact Nat.le_trans (List.length_filter_le ..) (by rw [List.length_range]; exact h8)
theorem ppaL_len {xs : List Int} (h : prtB xs = true) : ∀ i, i ≤ xs.length → (ppaL xs i).length ≤ 9 * i := by
  intro i
  induction i with
  | zero => intro _; exact Nat.le_refl _
  | succ i ih =>
    intro hi
    have h1 := ih (by omega)
    have h2 := (rowOf_bd h (show i < xs.length by omega)).2
    rw [ppaL, List.length_append, List.length_append, List.length_singleton]
    unfold ppaS
    split
    · rw [List.length_replicate]; omega
    · simp; omega

end Go.Proofs.Ytdnljgoaflggeaa
