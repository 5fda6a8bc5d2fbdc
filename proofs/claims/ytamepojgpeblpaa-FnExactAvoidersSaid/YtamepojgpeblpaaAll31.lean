/- All permutations, in order: plain. -/
import Derived.Test.YtamepojgpeblpaaNextI31
namespace Go.Proofs.Ytamepojgpeblpaa
open Go.ChangeShapes Go.WideShapes Go.ChangeAt Go.RowKit
set_option linter.unusedVariables false

/-- Whether x is among the first k numbers. -/
def usK (p : List Int) (x : Int) : Nat → Bool
  | 0 => false
  | k + 1 => usK p x k || (p.getD k 0 == x)
/-- What the first numbers behind p lead to. -/
def allX (rec : List Int → List (List Int)) (p : List Int) : Nat → List (List Int)
  | 0 => []
  | x + 1 => allX rec p x ++ (if usK p (x : Int) p.length = true then [] else rec (p ++ [(x : Int)]))
/-- All permutations of n numbers that begin so; f numbers are wanting. -/
def allP (n : Nat) : Nat → List Int → List (List Int)
  | 0, p => [p]
  | f + 1, p => allX (allP n f) p n
def pmLs (n : Nat) : List (List Int) := allP n n []
set_option maxRecDepth 100000 in
theorem al_next : ∀ n, n < 6 → ∀ k, k < (pmLs n).length - 1 → nextL ((pmLs n).getD k []) = some ((pmLs n).getD (k + 1) []) := by decide +kernel
set_option maxRecDepth 100000 in
theorem al_last : ∀ n, n < 6 → nextL ((pmLs n).getD ((pmLs n).length - 1) []) = none := by decide +kernel
set_option maxRecDepth 100000 in
theorem al_first : ∀ n, n < 6 → (pmLs n).getD 0 [] = asL n ∧ 0 < (pmLs n).length ∧ (pmLs n).length ≤ 120 := by decide +kernel
set_option maxRecDepth 100000 in
theorem al_len : ∀ n, n < 6 → ∀ k, k < (pmLs n).length → ((pmLs n).getD k []).length = n := by decide +kernel
/-- How many of the first k lists so many passes sort. -/
def cnS (L : List (List Int)) (m : Int) : Nat → Nat
  | 0 => 0
  | k + 1 => cnS L m k + if passP (L.getD k []) ≤ m then 1 else 0
theorem cnS_le (L : List (List Int)) (m : Int) (k : Nat) : cnS L m k ≤ k := by
  induction k with
  | zero => exact Nat.le_refl _
  | succ k ih => rw [cnS]; split <;> omega
def csOk (n m : Int) : Bool := decide (0 ≤ n ∧ n ≤ 5 ∧ 0 ≤ m ∧ m ≤ 5)
def csP (n m : Int) : Int := if csOk n m = true then (cnS (pmLs n.toNat) m (pmLs n.toNat).length : Int) else -1

end Go.Proofs.Ytamepojgpeblpaa
