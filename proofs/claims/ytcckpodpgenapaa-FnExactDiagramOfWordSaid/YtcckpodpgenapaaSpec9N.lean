/- The model's NestingsOf. -/
import Derived.Test.YtcckpodpgenapaaSpec9A
import Derived.BigQuiet
namespace Go.Proofs.Ytcckpodpgenapaa
open Go.ChangeShapes Go.WideShapes Go.ChangeAt Go.RowKit
set_option linter.unusedVariables false

/-- Pairs of arcs of which one stands in the other. -/
def nsR (xs : List Int) (a b : Nat) : Nat := if (b : Int) < xs.getD b 0 ∧ xs.getD b 0 < xs.getD a 0 then 1 else 0
def nsIn (xs : List Int) (a : Nat) : Nat → Nat
  | 0 => 0
  | k + 1 => nsIn xs a k + nsR xs a (a + 1 + k)
def nsOut (xs : List Int) : Nat → Nat
  | 0 => 0
  | a + 1 => nsOut xs a + nsIn xs a (xs.length - (a + 1))
theorem nsIn_le (xs : List Int) (a : Nat) : ∀ k, nsIn xs a k ≤ k := by
  intro k
  induction k with
  | zero => exact Nat.le_refl _
  | succ k ih => rw [nsIn]; have : nsR xs a (a + 1 + k) ≤ 1 := by unfold nsR; split <;> omega
                 omega
theorem nsOut_le (xs : List Int) : ∀ a, nsOut xs a ≤ a * xs.length := by
  intro a
  induction a with
  | zero => exact Nat.zero_le _
  | succ a ih => rw [nsOut, Nat.succ_mul]; have := nsIn_le xs a (xs.length - (a + 1)); omega
def nestP (xs : List Int) : Int := if matchP xs = true then (nsOut xs xs.length : Int) else -1

end Go.Proofs.Ytcckpodpgenapaa
