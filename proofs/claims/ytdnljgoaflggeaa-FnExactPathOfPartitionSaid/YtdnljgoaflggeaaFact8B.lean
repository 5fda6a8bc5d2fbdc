/- The rows of blN: the places of each block, in order. -/
import Derived.Test.YtdnljgoaflggeaaImpl8E
namespace Go.Proofs.Ytdnljgoaflggeaa
open Go.ChangeShapes Go.WideShapes Go.ChangeAt Go.RowKit
set_option linter.unusedVariables false

/-- The places below n at which j stands. -/
def plN (xs : List Int) (j : Nat) (n : Nat) : List Int := ((List.range n).filter fun i => decide (xs.getD i 0 = (j : Int))).map fun i : Nat => (i : Int)
theorem plN_succ (xs : List Int) (j n : Nat) : plN xs j (n + 1) = if xs.getD n 0 = (j : Int) then plN xs j n ++ [(n : Int)] else plN xs j n := by
  unfold plN
  rw [List.range_succ, List.filter_append, List.map_append]
  by_cases h : xs.getD n 0 = (j : Int)
  · rw [if_pos h, List.filter_cons_of_pos (by exact decide_eq_true h)]; rfl
  · rw [if_neg h, List.filter_cons_of_neg (by rw [decide_eq_false h]; simp)]; simp
theorem getD_nilrow (l : List (List Int)) (j : Nat) : (l ++ [[]]).getD j [] = l.getD j [] := by
  by_cases e : j < l.length
  · exact getD_app_l _ _ _ _ e
  · by_cases e2 : j = l.length
    · rw [e2, getD_app_e, List.getD_eq_getElem?_getD, List.getElem?_eq_none (Nat.le_refl _)]; rfl
    · rw [List.getD_eq_getElem?_getD, List.getElem?_eq_none (by rw [List.length_append, List.length_singleton]; omega), List.getD_eq_getElem?_getD, List.getElem?_eq_none (by omega)]
theorem blN_rows (xs : List Int) : ∀ n, (∀ i, i < n → 0 ≤ xs.getD i 0 ∧ xs.getD i 0 ≤ (ptN xs i : Int)) → ∀ j, (blN xs n).getD j [] = plN xs j n := by
  intro n
  induction n with
  | zero => intro _ j; simp [blN, plN]
  | succ n ih =>
    intro hok j
    have ih' := ih (fun i hi => hok i (by omega))
    have hn := hok n (Nat.lt_succ_self _)
    have hlen := blN_len xs n
    rw [blN, plN_succ]
    have hL : ∀ j, (if xs.getD n 0 = (ptN xs n : Int) then blN xs n ++ [[]] else blN xs n).getD j [] = plN xs j n := fun j => by
      split
      · rw [getD_nilrow]; exact ih' j
      · exact ih' j
    have hk : (xs.getD n 0).toNat < (if xs.getD n 0 = (ptN xs n : Int) then blN xs n ++ [[]] else blN xs n).length := by
      split
      · rw [List.length_append, List.length_singleton]; omega
      · omega
    generalize (if xs.getD n 0 = (ptN xs n : Int) then blN xs n ++ [[]] else blN xs n) = L at *
    by_cases e : j = (xs.getD n 0).toNat
    · rw [← e] at hk ⊢
      rw [getD_set_me _ _ _ _ hk, if_pos (by omega), hL]
    · rw [getD_set_ot _ _ _ _ _ e, if_neg (by omega), hL]

end Go.Proofs.Ytdnljgoaflggeaa
