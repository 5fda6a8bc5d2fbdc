/- The program's BlocksOf: a table whose rows grow. -/
import Derived.Test.YtefbbkogfoongaaImpl8A
import Derived.Test.YtefbbkogfoongaaTbl
namespace Go.Proofs.Ytefbbkogfoongaa
open Go.ChangeShapes Go.WideShapes Go.ChangeAt Go.RowKit
set_option linter.unusedVariables false

/-- The blocks of the first i elements. -/
def blN (xs : List Int) : Nat → List (List Int)
  | 0 => []
  | i + 1 => (if xs.getD i 0 = (ptN xs i : Int) then blN xs i ++ [[]] else blN xs i).set (xs.getD i 0).toNat
      ((if xs.getD i 0 = (ptN xs i : Int) then blN xs i ++ [[]] else blN xs i).getD (xs.getD i 0).toNat [] ++ [(i : Int)])
theorem blN_len (xs : List Int) (i : Nat) : (blN xs i).length = ptN xs i := by
  induction i with
  | zero => rfl
  | succ i ih => rw [blN, List.length_set, ptN]; split <;> simp [ih]
theorem blN_row (xs : List Int) (i : Nat) : ∀ j, ((blN xs i).getD j []).length ≤ i := by
  induction i with
  | zero => intro j; simp [blN]
  | succ i ih =>
    intro j
    have hx : ∀ j, ((if xs.getD i 0 = (ptN xs i : Int) then blN xs i ++ [[]] else blN xs i).getD j []).length ≤ i := fun j => by
      split
      · by_cases e : j < (blN xs i).length
        · rw [getD_app_l _ _ _ _ e]; exact ih j
        · by_cases e2 : j = (blN xs i).length
          · rw [e2, getD_app_e]; exact Nat.zero_le _
          · rw [List.getD_eq_getElem?_getD, List.getElem?_eq_none (by rw [List.length_append, List.length_singleton]; omega)]; exact Nat.zero_le _
      · exact ih j
    rw [blN]
    generalize (if xs.getD i 0 = (ptN xs i : Int) then blN xs i ++ [[]] else blN xs i) = l at *
    by_cases e : j = (xs.getD i 0).toNat
    · by_cases e2 : j < l.length
      · rw [← e, getD_set_me _ _ _ _ e2, List.length_append, List.length_singleton]
        have := hx j; omega
      · rw [List.getD_eq_getElem?_getD, List.getElem?_eq_none (by rw [List.length_set]; omega)]; exact Nat.zero_le _
    · rw [getD_set_ot _ _ _ _ _ e]
      have := hx j; omega
def blP (xs : List Int) : List (List Int) := if prtB xs then blN xs xs.length else []

end Go.Proofs.Ytefbbkogfoongaa
