/- DividePolynomials: plain facts. -/
import Derived.Test.YtpelicepgeoopaaMul14
namespace Go.Proofs.Ytpelicepgeoopaa
open Go.ChangeShapes Go.WideShapes Go.ChangeAt Go.RowKit
set_option linter.unusedVariables false

/-- How many terms a quotient has. -/
def dQ (a b : List Int) : Nat := a.length + 1 - b.length
/-- What is left behind k steps. -/
def dvR (a b : List Int) : Nat → Nat → Int
  | 0 => fun q => a.getD q 0
  | k + 1 => fun q => dvR a b k q - if dQ a b - 1 - k ≤ q ∧ q < dQ a b - 1 - k + b.length then dvR a b k (dQ a b - 1 - k + b.length - 1) * b.getD (q - (dQ a b - 1 - k)) 0 else 0
/-- The term that step k finds. -/
def dvT (a b : List Int) (k : Nat) : Int := dvR a b k (dQ a b - 1 - k + b.length - 1)
def dvI (a b : List Int) (k j : Nat) : Nat → Int := fun q => dvR a b k q - if dQ a b - 1 - k ≤ q ∧ q < dQ a b - 1 - k + j then dvT a b k * b.getD (q - (dQ a b - 1 - k)) 0 else 0
theorem dvI_zero (a b : List Int) (k : Nat) : dvI a b k 0 = dvR a b k := by funext q; unfold dvI; rw [if_neg (by omega)]; omega
theorem dvI_full (a b : List Int) (k : Nat) : dvI a b k b.length = dvR a b (k + 1) := rfl
theorem dvI_here (a b : List Int) (k j : Nat) : dvI a b k j (dQ a b - 1 - k + j) = dvR a b k (dQ a b - 1 - k + j) := by unfold dvI; rw [if_neg (by omega)]; omega
theorem dvI_succ (a b : List Int) (k j : Nat) : dvI a b k (j + 1) = upd (dvI a b k j) (dQ a b - 1 - k + j) (dvR a b k (dQ a b - 1 - k + j) - dvT a b k * b.getD j 0) := by
  funext q
  by_cases e : q = dQ a b - 1 - k + j
  · subst e
    rw [upd_at]
    unfold dvI
    rw [if_pos ⟨by omega, by omega⟩, show dQ a b - 1 - k + j - (dQ a b - 1 - k) = j by omega]
  · rw [upd_ne _ _ e]
    unfold dvI
    by_cases h : dQ a b - 1 - k ≤ q ∧ q < dQ a b - 1 - k + j
    · rw [if_pos ⟨h.1, by omega⟩, if_pos h]
    · rw [if_neg h, if_neg (by omega)]
/-- All terms so far are within the bound. -/
def dvC (a b : List Int) (k : Nat) : Prop := ∀ i, i < k → -1000000000 ≤ dvT a b i ∧ dvT a b i ≤ 1000000000
theorem one_mul_in {x y : Int} (h : -1000000000 ≤ x ∧ x ≤ 1000000000) (h1 : -1 ≤ y ∧ y ≤ 1) : -1000000000 ≤ x * y ∧ x * y ≤ 1000000000 := by
  have : (x * y).natAbs ≤ 1000000000 * 1 := by rw [Int.natAbs_mul]; exact Nat.mul_le_mul (by omega) (by omega)
  omega
theorem dvR_bd {a b : List Int} (ha : ∀ q, -100000 ≤ a.getD q 0 ∧ a.getD q 0 ≤ 100000) (hb : ∀ q, -1 ≤ b.getD q 0 ∧ b.getD q 0 ≤ 1) : ∀ k, dvC a b k → ∀ q, -(100000 + 1000000000 * (k : Int)) ≤ dvR a b k q ∧ dvR a b k q ≤ 100000 + 1000000000 * (k : Int)
  | 0, _, q => by have := ha q; show -(100000 + 1000000000 * (0 : Int)) ≤ a.getD q 0 ∧ a.getD q 0 ≤ _; omega
  | k + 1, h, q => by
    have ih := dvR_bd ha hb k (fun i hi => h i (by omega)) q
    have h1 := one_mul_in (h k (by omega)) (hb (q - (dQ a b - 1 - k)))
    unfold dvT at h1
    rw [show dvR a b (k + 1) q = dvR a b k q - if dQ a b - 1 - k ≤ q ∧ q < dQ a b - 1 - k + b.length then dvR a b k (dQ a b - 1 - k + b.length - 1) * b.getD (q - (dQ a b - 1 - k)) 0 else 0 from rfl]
    generalize dvR a b k q = x at *
    generalize dvR a b k (dQ a b - 1 - k + b.length - 1) * b.getD (q - (dQ a b - 1 - k)) 0 = y at *
    split <;> omega
/-- The quotient's terms that k steps have found, and zeros. -/
def dvQ (a b : List Int) (k : Nat) : Nat → Int := fun q => if dQ a b ≤ q + k ∧ q < dQ a b then dvT a b (dQ a b - 1 - q) else 0
theorem dvQ_zero (a b : List Int) : dvQ a b 0 = fun _ => 0 := by funext q; unfold dvQ; rw [if_neg (by omega)]
theorem dvQ_succ (a b : List Int) {k : Nat} (h : k < dQ a b) : dvQ a b (k + 1) = upd (dvQ a b k) (dQ a b - 1 - k) (dvT a b k) := by
  funext q
  by_cases e : q = dQ a b - 1 - k
  · subst e
    rw [upd_at]; unfold dvQ
    rw [if_pos ⟨by omega, by omega⟩, show dQ a b - 1 - (dQ a b - 1 - k) = k by omega]
  · rw [upd_ne _ _ e]; unfold dvQ
    by_cases h : dQ a b ≤ q + k ∧ q < dQ a b
    · rw [if_pos ⟨by omega, h.2⟩, if_pos h]
    · rw [if_neg h, if_neg (by omega)]
def quL (a b : List Int) : List Int := (List.range (dQ a b)).map (dvQ a b (dQ a b))
def reL (a b : List Int) : List Int := (List.range a.length).map (dvR a b (dQ a b))
theorem quL_len (a b : List Int) : (quL a b).length = dQ a b := by simp [quL]
theorem quL_at (a b : List Int) {q : Nat} (h : q < dQ a b) : (quL a b).getD q 0 = dvQ a b (dQ a b) q := by simp [quL, List.getD, h]
theorem reL_len (a b : List Int) : (reL a b).length = a.length := by simp [reL]
theorem reL_at (a b : List Int) {q : Nat} (h : q < a.length) : (reL a b).getD q 0 = dvR a b (dQ a b) q := by simp [reL, List.getD, h]
def disB (b : List Int) : Bool := decide (1 ≤ b.length ∧ b.length ≤ 13) && inB 1 b && decide (b.getD (b.length - 1) 0 = 1)
def dvGood (a b : List Int) : Prop := facB a = true ∧ disB b = true ∧ (∀ i, i < dQ a b → -1000000000 ≤ dvT a b i ∧ dvT a b i ≤ 1000000000) ∧ plyB (trL (reL a b)) = true
instance (a b : List Int) : Decidable (dvGood a b) := by unfold dvGood; infer_instance
def dvOk (a b : List Int) : Bool := decide (dvGood a b)
def dvX (a b : List Int) : List Int := if dvOk a b = true then quL a b else []
def dvY (a b : List Int) : List Int := if dvOk a b = true then trL (reL a b) else []
theorem dis_parts {b : List Int} (h : disB b = true) : (1 ≤ b.length ∧ b.length ≤ 13) ∧ inB 1 b = true ∧ b.getD (b.length - 1) 0 = 1 := by
  unfold disB at h
  simp only [Bool.and_eq_true, decide_eq_true_eq] at h
  exact ⟨h.1.1, h.1.2, h.2⟩
theorem dis_ply {b : List Int} (h : disB b = true) : plyB b = true := by
  obtain ⟨⟨h1, h2⟩, h3, h4⟩ := dis_parts h
  unfold plyB lstB
  rw [decide_eq_true (by omega), decide_eq_true (.inr (by rw [h4]; decide)), Bool.and_true, Bool.true_and, inB_iff]
  intro j hj
  have := (inB_iff _ _).1 h3 j hj
  omega
theorem fac_parts {a : List Int} (h : facB a = true) : inB 100000 a = true ∧ a.length ≤ 61 ∧ lstB a = true := by
  unfold facB plyB at h
  simp only [Bool.and_eq_true, decide_eq_true_eq] at h
  exact ⟨h.1, h.2.1.1, h.2.2⟩
/-- The quotient is a polynomial: its last term is the dividend's. -/
theorem quL_ply {a b : List Int} (ha : facB a = true) (hb : disB b = true) (hc : dvC a b (dQ a b)) : plyB (quL a b) = true := by
  obtain ⟨a1, a2, a3⟩ := fac_parts ha
  obtain ⟨⟨h1, h2⟩, h3, h4⟩ := dis_parts hb
  have hq : dQ a b ≤ 61 := by unfold dQ; omega
  unfold plyB
  rw [quL_len, decide_eq_true hq, Bool.true_and, Bool.and_eq_true]
  constructor
  · rw [inB_iff]
    intro j hj
    rw [quL_len] at hj
    rw [quL_at a b hj]
    unfold dvQ
    rw [if_pos ⟨by omega, hj⟩]
    exact hc _ (by omega)
  · unfold lstB
    rw [quL_len]
    apply decide_eq_true
    by_cases h0 : dQ a b = 0
    · exact .inl h0
    · right
      rw [quL_at a b (show dQ a b - 1 < dQ a b by omega)]
      unfold dvQ
      rw [if_pos ⟨by omega, by omega⟩, show dQ a b - 1 - (dQ a b - 1) = 0 by omega]
      unfold lstB at a3
      have := of_decide_eq_true a3
      have hl : dQ a b - 1 - 0 + b.length - 1 = a.length - 1 := by unfold dQ at h0 ⊢; omega
      show dvR a b 0 (dQ a b - 1 - 0 + b.length - 1) ≠ 0
      rw [hl]
      rcases this with h | h
      · unfold dQ at h0; omega
      · exact h
theorem trL_ply {xs : List Int} (h : plyB xs = true) : trL xs = xs := by
  unfold plyB at h
  simp only [Bool.and_eq_true] at h
  have h2 := trN_last xs
  rw [h.2] at h2
  have h3 : trN xs xs.length = xs.length := by simpa using h2
  unfold trL
  rw [h3, List.take_length]
theorem dvX_len (a b : List Int) : (dvX a b).length ≤ 61 := by
  unfold dvX
  split
  · rename_i h
    have h2 : dvGood a b := of_decide_eq_true h
    rw [quL_len]
    have := (fac_parts h2.1).2.1
    have := (dis_parts h2.2.1).1
    unfold dQ; omega
  · simp
theorem dvY_len (a b : List Int) : (dvY a b).length ≤ 61 := by
  unfold dvY
  split
  · rename_i h
    have h2 : dvGood a b := of_decide_eq_true h
    have h3 := trL_le (reL a b)
    rw [reL_len] at h3
    have := (fac_parts h2.1).2.1
    omega
  · simp

end Go.Proofs.Ytpelicepgeoopaa
