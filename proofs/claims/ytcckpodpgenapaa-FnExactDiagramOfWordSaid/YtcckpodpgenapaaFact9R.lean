/- Pairs of arcs, counted over the arcs and over the points. -/
import Derived.Test.YtcckpodpgenapaaImpl9T
import Derived.Test.YtcckpodpgenapaaSpec9N
namespace Go.Proofs.Ytcckpodpgenapaa
open Go.ChangeShapes Go.WideShapes Go.ChangeAt Go.RowKit
set_option linter.unusedVariables false

/-- The points a and b begin arcs that stand so to each other. -/
def ind (R : Int × Int → Int × Int → Bool) (xs : List Int) (a b : Nat) : Nat :=
  if (a : Int) < xs.getD a 0 ∧ (b : Int) < xs.getD b 0 ∧ a < b ∧ R ((a : Int), xs.getD a 0) ((b : Int), xs.getD b 0) = true then 1 else 0
def sumN (f : Nat → Nat) : Nat → Nat
  | 0 => 0
  | k + 1 => sumN f k + f k
theorem cnt_row (R : Int × Int → Int × Int → Bool) (xs : List Int) (a : Nat) (ha : (a : Int) < xs.getD a 0) : ∀ k, cntI R ((a : Int), xs.getD a 0) (arcL xs k) = sumN (ind R xs a) k := by
  intro k
  induction k with
  | zero => rfl
  | succ k ih =>
    rw [arcL, sumN]
    by_cases h : (k : Int) < xs.getD k 0
    · rw [if_pos h, cntI_snoc, ih]
      congr 1
      unfold ind
      by_cases h2 : a < k ∧ R ((a : Int), xs.getD a 0) ((k : Int), xs.getD k 0) = true
      · have hL : (decide ((((a : Int), xs.getD a 0) : Int × Int).1 < (((k : Int), xs.getD k 0) : Int × Int).1) && R ((a : Int), xs.getD a 0) ((k : Int), xs.getD k 0)) = true := by
          rw [Bool.and_eq_true, decide_eq_true_eq]
          exact ⟨by show (a : Int) < (k : Int); omega, h2.2⟩
        rw [if_pos hL, if_pos ⟨ha, h, h2.1, h2.2⟩]
      · have hL : ¬ (decide ((((a : Int), xs.getD a 0) : Int × Int).1 < (((k : Int), xs.getD k 0) : Int × Int).1) && R ((a : Int), xs.getD a 0) ((k : Int), xs.getD k 0)) = true := by
          intro hh
          rw [Bool.and_eq_true, decide_eq_true_eq] at hh
          have h3 : (a : Int) < (k : Int) := hh.1
          exact h2 ⟨by omega, hh.2⟩
        rw [if_neg hL, if_neg (fun hh => h2 ⟨hh.2.2.1, hh.2.2.2⟩)]
    · rw [if_neg h, ih]
      have : ind R xs a k = 0 := if_neg (fun hh => h hh.2.1)
      rw [this, Nat.add_zero]
theorem sumN_zero (f : Nat → Nat) (k : Nat) (h : ∀ i, i < k → f i = 0) : sumN f k = 0 := by
  induction k with
  | zero => rfl
  | succ k ih => rw [sumN, ih (fun i hi => h i (by omega)), h k (Nat.lt_succ_self k)]
theorem cnt_all (R : Int × Int → Int × Int → Bool) (xs : List Int) : ∀ k, cntO R (arcL xs xs.length) (arcL xs k) = sumN (fun a => sumN (ind R xs a) xs.length) k := by
  intro k
  induction k with
  | zero => rfl
  | succ k ih =>
    rw [arcL, sumN]
    by_cases h : (k : Int) < xs.getD k 0
    · rw [if_pos h, cntO_snoc, ih, cnt_row R xs k h]
    · rw [if_neg h, ih, sumN_zero (ind R xs k) xs.length (fun i _ => if_neg (fun hh => h hh.1)), Nat.add_zero]

theorem crR_ind (xs : List Int) {a b : Nat} (h : a < b) : crR xs a b = ind xR xs a b := by
  unfold crR ind xR crossB
  simp only [decide_eq_true_eq]
  generalize xs.getD a 0 = x
  generalize xs.getD b 0 = y
  split <;> split <;> omega
theorem crIn_sum (xs : List Int) (a : Nat) : ∀ k, crIn xs a k = sumN (ind xR xs a) (a + 1 + k) := by
  intro k
  induction k with
  | zero => exact (sumN_zero _ _ (fun i hi => if_neg (fun hh => by omega))).symm
  | succ k ih => rw [crIn, ih, crR_ind xs (show a < a + 1 + k by omega), show a + 1 + (k + 1) = a + 1 + k + 1 by omega, sumN]
theorem crOut_sum (xs : List Int) : ∀ k, k ≤ xs.length → crOut xs k = sumN (fun a => sumN (ind xR xs a) xs.length) k := by
  intro k
  induction k with
  | zero => intro _; rfl
  | succ k ih => intro hk; rw [crOut, sumN, ih (by omega), crIn_sum, show k + 1 + (xs.length - (k + 1)) = xs.length by omega]
theorem crA_eq (xs : List Int) : crA xs = crossP xs := by
  unfold crA crossP
  rw [cnt_all, crOut_sum xs xs.length (Nat.le_refl _)]

theorem nsR_ind (xs : List Int) {a b : Nat} (h : a < b) : nsR xs a b = ind nR xs a b := by
  unfold nsR ind nR contB
  simp only [decide_eq_true_eq]
  generalize xs.getD a 0 = x
  generalize xs.getD b 0 = y
  split <;> split <;> omega
theorem nsIn_sum (xs : List Int) (a : Nat) : ∀ k, nsIn xs a k = sumN (ind nR xs a) (a + 1 + k) := by
  intro k
  induction k with
  | zero => exact (sumN_zero _ _ (fun i hi => if_neg (fun hh => by omega))).symm
  | succ k ih => rw [nsIn, ih, nsR_ind xs (show a < a + 1 + k by omega), show a + 1 + (k + 1) = a + 1 + k + 1 by omega, sumN]
theorem nsOut_sum (xs : List Int) : ∀ k, k ≤ xs.length → nsOut xs k = sumN (fun a => sumN (ind nR xs a) xs.length) k := by
  intro k
  induction k with
  | zero => intro _; rfl
  | succ k ih => intro hk; rw [nsOut, sumN, ih (by omega), nsIn_sum, show k + 1 + (xs.length - (k + 1)) = xs.length by omega]
theorem nsA_eq (xs : List Int) : nsA xs = nestP xs := by
  unfold nsA nestP
  rw [cnt_all, nsOut_sum xs xs.length (Nat.le_refl _)]

end Go.Proofs.Ytcckpodpgenapaa
