/- Gaussian binomials: plain, and the model's l14Binomial (a table of rows, each row out of two of the table before). -/
import Derived.Test.YtpelicepgeoopaaMul14I
import Derived.Test.YtpelicepgeoopaaAdd14I
import Derived.Test.YtpelicepgeoopaaSpec14E
namespace Go.Proofs.Ytpelicepgeoopaa
open Go.ChangeShapes Go.WideShapes Go.ChangeAt Go.RowKit
set_option linter.unusedVariables false

/-- The Gaussian binomial. -/
def gsP : Nat → Nat → List Int
  | 0, _ => [1]
  | n + 1, k => if k = 0 ∨ k = n + 1 then [1] else trL (adL (gsP n k) (tmL 1 (n + 1 - k) (gsP n (k - 1))))
/-- The row m, j while it is made: i1 numbers of the first row and i2 of the second. -/
def biF (m j i1 i2 : Nat) (q : Nat) : Int := (if q < i1 then (gsP (m - 1) j).getD q 0 else 0) + (if m - j ≤ q ∧ q < m - j + i2 then (gsP (m - 1) (j - 1)).getD (q - (m - j)) 0 else 0)
/-- How many numbers the first row, and the second one, have. -/
def bi1 (m j : Nat) : Nat := if j < m then (gsP (m - 1) j).length else 0
def bi2 (m j : Nat) : Nat := if 0 < j then (gsP (m - 1) (j - 1)).length else 0
set_option maxRecDepth 100000 in
theorem gs_len : ∀ m, m < 15 → ∀ j, j < m + 1 → (gsP m j).length = j * (m - j) + 1 ∧ j * (m - j) < 50 := by decide +kernel
set_option maxRecDepth 100000 in
theorem gs_in : ∀ m, m < 15 → ∀ j, j < m + 1 → (∀ x ∈ gsP m j, 0 ≤ x ∧ x ≤ 100000) := by decide +kernel
set_option maxRecDepth 100000 in
theorem bi_row : ∀ m, m < 15 → 1 ≤ m → ∀ j, j < m + 1 → (List.range (j * (m - j) + 1)).map (biF m j (bi1 m j) (bi2 m j)) = gsP m j := by decide +kernel
set_option maxRecDepth 100000 in
theorem bi_fit : ∀ m, m < 15 → 1 ≤ m → ∀ j, j < m + 1 → bi1 m j ≤ j * (m - j) + 1 ∧ m - j + bi2 m j ≤ j * (m - j) + 1 + (if j = 0 then m else 0) := by decide +kernel
theorem gs_at {m j q : Nat} (hm : m < 15) (hj : j < m + 1) : 0 ≤ (gsP m j).getD q 0 ∧ (gsP m j).getD q 0 ≤ 100000 := by
  by_cases h : q < (gsP m j).length
  · rw [List.getD_eq_getElem?_getD, List.getElem?_eq_getElem h]
    exact gs_in m hm j hj _ (List.getElem_mem h)
  · rw [List.getD_eq_getElem?_getD, List.getElem?_eq_none (by omega)]
    exact ⟨by decide, by decide⟩
theorem biF_zero (m j : Nat) : biF m j 0 0 = fun _ => 0 := by
  funext q
  unfold biF
  rw [if_neg (by omega), if_neg (by omega)]; rfl
theorem biF_s1 (m j i : Nat) : biF m j (i + 1) 0 = upd (biF m j i 0) i (biF m j i 0 i + (gsP (m - 1) j).getD i 0) := by
  funext q
  by_cases e : q = i
  · subst e
    rw [upd_at]
    unfold biF
    rw [if_pos (by omega), if_neg (by omega), if_neg (by omega)]; omega
  · rw [upd_ne _ _ e]
    unfold biF
    by_cases h : q < i
    · rw [if_pos h, if_pos (by omega)]
    · rw [if_neg h, if_neg (by omega)]
theorem biF_s2 (m j i1 i : Nat) : biF m j i1 (i + 1) = upd (biF m j i1 i) (m - j + i) (biF m j i1 i (m - j + i) + (gsP (m - 1) (j - 1)).getD i 0) := by
  funext q
  by_cases e : q = m - j + i
  · subst e
    rw [upd_at]
    unfold biF
    rw [if_pos (show m - j ≤ m - j + i ∧ m - j + i < m - j + (i + 1) by omega), if_neg (show ¬ (m - j ≤ m - j + i ∧ m - j + i < m - j + i) by omega), show m - j + i - (m - j) = i by omega]; omega
  · rw [upd_ne _ _ e]
    unfold biF
    by_cases h : m - j ≤ q ∧ q < m - j + i
    · rw [if_pos h, if_pos (show m - j ≤ q ∧ q < m - j + (i + 1) by omega)]
    · rw [if_neg h, if_neg (show ¬ (m - j ≤ q ∧ q < m - j + (i + 1)) by omega)]
theorem biF_bd {m j i1 i2 q : Nat} (hm : m < 15) (hm1 : 1 ≤ m) (hj : j < m + 1) (h1 : 0 < i1 → j < m) : 0 ≤ biF m j i1 i2 q ∧ biF m j i1 i2 q ≤ 200000 := by
  unfold biF
  have b : 0 ≤ (gsP (m - 1) (j - 1)).getD (q - (m - j)) 0 ∧ (gsP (m - 1) (j - 1)).getD (q - (m - j)) 0 ≤ 100000 := gs_at (by omega) (by omega)
  by_cases e : q < i1
  · have a : 0 ≤ (gsP (m - 1) j).getD q 0 ∧ (gsP (m - 1) j).getD q 0 ≤ 100000 := gs_at (by omega) (by have := h1 (by omega); omega)
    rw [if_pos e]; split <;> omega
  · rw [if_neg e]; split <;> omega
theorem bi_at {m j q : Nat} (hm : m < 15) (hm1 : 1 ≤ m) (hj : j < m + 1) (hq : q < j * (m - j) + 1) : biF m j (bi1 m j) (bi2 m j) q = (gsP m j).getD q 0 := by
  rw [← bi_row m hm hm1 j hj]
  simp [List.getD, hq]

end Go.Proofs.Ytpelicepgeoopaa
