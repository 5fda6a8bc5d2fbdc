/- The contract of the model's NarayanaNumber. -/
import Derived.Test.YtcckpodpgenapaaSpec2A
namespace Go.Proofs.Ytcckpodpgenapaa
open Go.ChangeShapes Go.WideShapes Go.ChangeAt Go.RowKit
set_option linter.unusedVariables false

/-- A binomial number, step by step. -/
def bn (n : Nat) : Nat → Int
  | 0 => 1
  | i + 1 => bn n i * ((n : Int) - i) / ((i : Int) + 1)
theorem bn_zero (n : Nat) : bn n 0 = 1 := rfl
theorem bn_succ (n i : Nat) : bn n (i + 1) = bn n i * ((n : Int) - i) / ((i : Int) + 1) := rfl
set_option maxRecDepth 100000 in
theorem bn_all : ∀ n, n < 16 → ∀ k, k < 16 → 0 ≤ bn n k ∧ bn n k ≤ 6435 := by decide
theorem bn_bd (n k : Nat) (h : n ≤ 15) (hk : k ≤ 15) : 0 ≤ bn n k ∧ bn n k ≤ 6435 := bn_all n (by omega) k (by omega)

def narP (n k : Int) : Int := if 0 ≤ n ∧ n ≤ 15 ∧ 0 ≤ k ∧ k ≤ n then (if n = 0 then 1 else if k = 0 then 0 else bn n.toNat k.toNat * bn n.toNat (k.toNat - 1) / n) else 0

end Go.Proofs.Ytcckpodpgenapaa
