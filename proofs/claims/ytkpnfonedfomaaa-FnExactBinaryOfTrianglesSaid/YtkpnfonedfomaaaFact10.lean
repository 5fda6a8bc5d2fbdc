/- Plain facts of permutations: what is counted and what is looked for. -/
import Derived.Test.YtkpnfonedfomaaaSpec2G
namespace Go.Proofs.Ytkpnfonedfomaaa
open Go.ChangeShapes Go.WideShapes Go.ChangeAt Go.RowKit
set_option linter.unusedVariables false

/-- The number at the place j is one of the numbers, and a new one. -/
def pmOk (xs : List Int) (j : Nat) : Prop := 0 ≤ xs.getD j 0 ∧ xs.getD j 0 ≤ (xs.length : Int) - 1 ∧ ∀ k, k < j → xs.getD k 0 ≠ xs.getD j 0
instance (xs : List Int) (j : Nat) : Decidable (pmOk xs j) := by unfold pmOk; infer_instance
def permB (xs : List Int) : Bool := decide (xs.length ≤ 8 ∧ ∀ j, j < xs.length → pmOk xs j)
theorem perm_no {xs : List Int} {j : Nat} (hj : j < xs.length) (h : ¬ pmOk xs j) : permB xs = false := decide_eq_false fun hh => h (hh.2 j hj)
theorem perm_yes {xs : List Int} (h : permB xs = true) : xs.length ≤ 8 ∧ ∀ j, j < xs.length → pmOk xs j := of_decide_eq_true h
theorem perm_long {xs : List Int} (h : 8 < xs.length) : permB xs = false := decide_eq_false fun hh => by have := hh.1; omega

/-- Three numbers in order that are so related. -/
def hasT (R : Int → Int → Int → Bool) (xs : List Int) : Bool := !decide (∀ c, c < xs.length → ∀ b, b < c → ∀ a, a < b → R (xs.getD a 0) (xs.getD b 0) (xs.getD c 0) = false)
theorem hasT_yes {R : Int → Int → Int → Bool} {xs : List Int} {a b c : Nat} (h1 : a < b) (h2 : b < c) (h3 : c < xs.length) (h : R (xs.getD a 0) (xs.getD b 0) (xs.getD c 0) = true) : hasT R xs = true := by
  unfold hasT
  rw [decide_eq_false]; · rfl
  intro hh
  rw [hh c h3 b h2 a h1] at h; cases h
theorem hasT_no {R : Int → Int → Int → Bool} {xs : List Int} (h : ∀ a b c, a < b → b < c → c < xs.length → R (xs.getD a 0) (xs.getD b 0) (xs.getD c 0) = false) : hasT R xs = false := by
  unfold hasT
  rw [decide_eq_true]; · rfl
  exact fun c h3 b h2 a h1 => h a b c h1 h2 h3
def r231 (a b c : Int) : Bool := decide (c < a ∧ a < b)
def r321 (a b c : Int) : Bool := decide (c < b ∧ b < a)
def conB (R : Int → Int → Int → Bool) (xs : List Int) : Bool := permB xs && hasT R xs

/-- Sums over pairs, by the first and by the second of them. -/
def sumA (r : Nat → Nat → Nat) (a : Nat) : Nat → Nat
  | 0 => 0
  | k + 1 => sumA r a k + r a (a + 1 + k)
def sumAA (r : Nat → Nat → Nat) (n : Nat) : Nat → Nat
  | 0 => 0
  | a + 1 => sumAA r n a + sumA r a (n - (a + 1))
def sumB (r : Nat → Nat → Nat) (b : Nat) : Nat → Nat
  | 0 => 0
  | a + 1 => sumB r b a + r a b
def sumBB (r : Nat → Nat → Nat) : Nat → Nat
  | 0 => 0
  | b + 1 => sumBB r b + sumB r b b
theorem sumAA_one (r : Nat → Nat → Nat) (n : Nat) : ∀ m, m ≤ n → sumAA r (n + 1) m = sumAA r n m + sumB r n m := by
  intro m
  induction m with
  | zero => intro _; rfl
  | succ a ih =>
    intro h
    rw [sumAA, sumAA, sumB, ih (by omega), show n + 1 - (a + 1) = (n - (a + 1)) + 1 by omega, sumA, show a + 1 + (n - (a + 1)) = n by omega]
    omega
theorem sum_swap (r : Nat → Nat → Nat) : ∀ n, sumAA r n n = sumBB r n := by
  intro n
  induction n with
  | zero => rfl
  | succ n ih =>
    rw [sumBB, sumAA, sumAA_one r n n (Nat.le_refl _), ih, show n + 1 - (n + 1) = 0 by omega, sumA]; omega
theorem sumA_le (r : Nat → Nat → Nat) (hr : ∀ a b, r a b ≤ 1) (a : Nat) : ∀ k, sumA r a k ≤ k := by
  intro k
  induction k with
  | zero => exact Nat.le_refl _
  | succ k ih => rw [sumA]; have := hr a (a + 1 + k); omega
theorem sumAA_le (r : Nat → Nat → Nat) (hr : ∀ a b, r a b ≤ 1) (n : Nat) : ∀ a, sumAA r n a ≤ a * n := by
  intro a
  induction a with
  | zero => exact Nat.zero_le _
  | succ a ih => rw [sumAA, Nat.succ_mul]; have := sumA_le r hr a (n - (a + 1)); omega
theorem sumB_le (r : Nat → Nat → Nat) (hr : ∀ a b, r a b ≤ 1) (b : Nat) : ∀ a, sumB r b a ≤ a := by
  intro a
  induction a with
  | zero => exact Nat.le_refl _
  | succ a ih => rw [sumB]; have := hr a b; omega
theorem sumBB_le (r : Nat → Nat → Nat) (hr : ∀ a b, r a b ≤ 1) : ∀ b, sumBB r b ≤ b * b := by
  intro b
  induction b with
  | zero => exact Nat.zero_le _
  | succ b ih =>
    have := sumB_le r hr b b
    rw [sumBB, Nat.succ_mul, Nat.mul_succ]; omega

def ivR (xs : List Int) (a b : Nat) : Nat := if xs.getD b 0 < xs.getD a 0 then 1 else 0
theorem ivR_le (xs : List Int) (a b : Nat) : ivR xs a b ≤ 1 := by unfold ivR; split <;> omega
def invP (xs : List Int) : Int := if permB xs = true then (sumBB (ivR xs) xs.length : Int) else -1
/-- The descents among the first k + 1 numbers. -/
def desN (xs : List Int) : Nat → Nat
  | 0 => 0
  | k + 1 => desN xs k + if xs.getD (k + 1) 0 < xs.getD k 0 then 1 else 0
theorem desN_le (xs : List Int) (k : Nat) : desN xs k ≤ k := by
  induction k with
  | zero => exact Nat.le_refl _
  | succ k ih => rw [desN]; split <;> omega
def desP (xs : List Int) : Int := if permB xs = true then (desN xs (xs.length - 1) : Int) else -1

end Go.Proofs.Ytkpnfonedfomaaa
