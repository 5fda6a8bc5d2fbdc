/- Triangles, plain. -/
import Derived.Test.YtkpnfonedfomaaaFact7E
namespace Go.Proofs.Ytkpnfonedfomaaa
set_option linter.unusedVariables false

/-- The triangles with corners a, b and the third one below k; with a and the second one below k; with the first one below k. -/
def t3C (J : Ch → Bool) (a b : Nat) : Nat → List (List Int)
  | 0 => []
  | k + 1 => t3C J a b k ++ (if b < k ∧ J ((a : Int), (b : Int)) = true ∧ J ((b : Int), (k : Int)) = true ∧ J ((a : Int), (k : Int)) = true then [[(a : Int), (b : Int), (k : Int)]] else [])
def t3B (J : Ch → Bool) (n a : Nat) : Nat → List (List Int)
  | 0 => []
  | k + 1 => t3B J n a k ++ (if a < k then t3C J a k n else [])
def t3A (J : Ch → Bool) (n : Nat) : Nat → List (List Int)
  | 0 => []
  | k + 1 => t3A J n k ++ t3B J n k n
theorem t3C_low (J : Ch → Bool) (a b : Nat) : ∀ k, k ≤ b + 1 → t3C J a b k = []
  | 0, _ => rfl
  | k + 1, h => by unfold t3C; rw [t3C_low J a b k (by omega), if_neg (by omega)]; rfl
theorem t3B_low (J : Ch → Bool) (n a : Nat) : ∀ k, k ≤ a + 1 → t3B J n a k = []
  | 0, _ => rfl
  | k + 1, h => by unfold t3B; rw [t3B_low J n a k (by omega), if_neg (by omega)]; rfl
theorem t3C_len (J : Ch → Bool) (a b : Nat) : ∀ k, (t3C J a b k).length ≤ k
  | 0 => Nat.le_refl _
  | k + 1 => by unfold t3C; rw [List.length_append]; have := t3C_len J a b k; split <;> simp <;> omega
theorem t3B_len (J : Ch → Bool) (n a : Nat) : ∀ k, (t3B J n a k).length ≤ k * n
  | 0 => Nat.zero_le _
  | k + 1 => by
    unfold t3B; rw [List.length_append, Nat.succ_mul]; have := t3B_len J n a k
    have h2 := t3C_len J a k n
    split
    · omega
    · simp; omega
theorem t3A_len (J : Ch → Bool) (n : Nat) : ∀ k, (t3A J n k).length ≤ k * (n * n)
  | 0 => Nat.zero_le _
  | k + 1 => by
    unfold t3A; rw [List.length_append, Nat.succ_mul]; have := t3A_len J n k; have := t3B_len J n k n; omega
def tri3 (n : Int) (ls : List (List Int)) : List (List Int) := if triB n ls = true then t3A (jnB n (csT ls)) n.toNat n.toNat else []

theorem tri3_bd (n : Int) (ls : List (List Int)) : (tri3 n ls).length ≤ 1000 := by
  unfold tri3
  split
  · rename_i h
    obtain ⟨⟨h1, h2, -⟩, -⟩ := tri_bd h
    have := t3A_len (jnB n (csT ls)) n.toNat n.toNat
    have : n.toNat * (n.toNat * n.toNat) ≤ 10 * (10 * 10) := Nat.mul_le_mul (by omega) (Nat.mul_le_mul (by omega) (by omega))
    omega
  · exact Nat.zero_le _
theorem t3C_row (J : Ch → Bool) (a b : Nat) : ∀ k, ∀ r ∈ t3C J a b k, r.length = 3
  | 0, r, h => by cases h
  | k + 1, r, h => by
    unfold t3C at h
    rw [List.mem_append] at h
    rcases h with h | h
    · exact t3C_row J a b k r h
    · split at h
      · rw [List.mem_singleton] at h; rw [h]; rfl
      · cases h
theorem t3B_row (J : Ch → Bool) (n a : Nat) : ∀ k, ∀ r ∈ t3B J n a k, r.length = 3
  | 0, r, h => by cases h
  | k + 1, r, h => by
    unfold t3B at h
    rw [List.mem_append] at h
    rcases h with h | h
    · exact t3B_row J n a k r h
    · split at h
      · exact t3C_row J a k n r h
      · cases h
theorem t3A_row (J : Ch → Bool) (n : Nat) : ∀ k, ∀ r ∈ t3A J n k, r.length = 3
  | 0, r, h => by cases h
  | k + 1, r, h => by
    unfold t3A at h
    rw [List.mem_append] at h
    rcases h with h | h
    · exact t3A_row J n k r h
    · exact t3B_row J n k n r h
theorem tri3_row (n : Int) (ls : List (List Int)) : ∀ r ∈ tri3 n ls, r.length = 3 := by
  unfold tri3
  split
  · exact t3A_row _ _ _
  · exact fun r h => by cases h

end Go.Proofs.Ytkpnfonedfomaaa
