/- Valleys of a path that are made peaks: plain facts. -/
import Derived.Test.YtjjaildejonmfaaFact18
import Derived.Test.YtjjaildejonmfaaStrB
namespace Go.Proofs.Ytjjaildejonmfaa
open Go.PlainAid (bt bt_nonneg bt_le get_bt bt_end)
set_option linter.unusedVariables false

/-- The word with the letters ahead of place k and at it turned. -/
def cvP (s : ByteArray) (k : Nat) : ByteArray := (s.extract 0 (k - 1) ++ ⟨#[117, 100]⟩) ++ s.extract (k + 1) s.size
def vale (s : ByteArray) (k : Nat) : Prop := 1 ≤ k ∧ bt s (k - 1) = 100 ∧ bt s k = 117
instance (s : ByteArray) (k : Nat) : Decidable (vale s k) := by unfold vale; infer_instance
/-- The covers by the valleys ahead of place k. -/
def cvL (s : ByteArray) : Nat → List ByteArray
  | 0 => []
  | k + 1 => if vale s k then cvL s k ++ [cvP s k] else cvL s k
theorem cvL_yes {s : ByteArray} {k : Nat} (h : vale s k) : cvL s (k + 1) = cvL s k ++ [cvP s k] := by rw [cvL, if_pos h]
theorem cvL_no {s : ByteArray} {k : Nat} (h : ¬ vale s k) : cvL s (k + 1) = cvL s k := by rw [cvL, if_neg h]
theorem cvL_le (s : ByteArray) : ∀ k, (cvL s k).length ≤ k
  | 0 => Nat.le_refl _
  | k + 1 => by
    have := cvL_le s k
    by_cases h : vale s k
    · rw [cvL_yes h, List.length_append, List.length_singleton]; omega
    · rw [cvL_no h]; omega
def covP (s : ByteArray) : List ByteArray := if dyck s = true then cvL s s.size else []
theorem cov_yes {s : ByteArray} (h : dyck s = true) : covP s = cvL s s.size := if_pos h
theorem cov_no {s : ByteArray} (h : dyck s = false) : covP s = [] := if_neg (by rw [h]; simp)
theorem cov_le (s : ByteArray) : (covP s).length ≤ 16 := by
  unfold covP
  split
  · rename_i h
    have := cvL_le s s.size
    have := dyck_size h
    omega
  · simp
/-- The places behind the valleys ahead of place k. -/
def vlL (s : ByteArray) : Nat → List Int
  | 0 => []
  | k + 1 => if vale s k then vlL s k ++ [(k : Int)] else vlL s k
theorem vlL_yes {s : ByteArray} {k : Nat} (h : vale s k) : vlL s (k + 1) = vlL s k ++ [(k : Int)] := by rw [vlL, if_pos h]
theorem vlL_no {s : ByteArray} {k : Nat} (h : ¬ vale s k) : vlL s (k + 1) = vlL s k := by rw [vlL, if_neg h]
theorem vlL_le (s : ByteArray) : ∀ k, (vlL s k).length ≤ k
  | 0 => Nat.le_refl _
  | k + 1 => by
    have := vlL_le s k
    by_cases h : vale s k
    · rw [vlL_yes h, List.length_append, List.length_singleton]; omega
    · rw [vlL_no h]; omega
theorem vlL_in (s : ByteArray) : ∀ k, ∀ y ∈ vlL s k, ∃ j : Nat, y = j ∧ 1 ≤ j ∧ j < k
  | 0, y, hy => by simp [vlL] at hy
  | k + 1, y, hy => by
    by_cases h : vale s k
    · rw [vlL_yes h, List.mem_append] at hy
      rcases hy with hy | hy
      · obtain ⟨j, e, h1, h2⟩ := vlL_in s k y hy
        exact ⟨j, e, h1, by omega⟩
      · simp at hy
        exact ⟨k, hy, h.1, by omega⟩
    · rw [vlL_no h] at hy
      obtain ⟨j, e, h1, h2⟩ := vlL_in s k y hy
      exact ⟨j, e, h1, by omega⟩
theorem cvL_map (s : ByteArray) : ∀ k, cvL s k = (vlL s k).map fun y => cvP s y.toNat
  | 0 => rfl
  | k + 1 => by
    by_cases h : vale s k
    · rw [cvL_yes h, vlL_yes h, List.map_append, cvL_map s k]; rfl
    · rw [cvL_no h, vlL_no h, cvL_map s k]
theorem two_at18 (s : ByteArray) (a : Nat) (h : a + 2 ≤ s.size) : ((s.extract a (a + 2)).toList == (⟨#[100, 117]⟩ : ByteArray).toList) = decide (bt s a = 100 ∧ bt s (a + 1) = 117) := by
  have hz : (s.extract a (a + 2)).size = 2 := by rw [ByteArray.size_extract]; omega
  have e0 := bt_ext s a (a + 2) 0 (by omega) (by omega)
  have e1 := bt_ext s a (a + 2) 1 (by omega) (by omega)
  have hz2 : (⟨#[100, 117]⟩ : ByteArray).size = 2 := rfl
  have f0 : bt ⟨#[100, 117]⟩ 0 = 100 := by rw [bt_at _ _ (by omega)]; rfl
  have f1 : bt ⟨#[100, 117]⟩ 1 = 117 := by rw [bt_at _ _ (by omega)]; rfl
  rw [Bool.eq_iff_iff, beq_iff_eq, decide_eq_true_eq]
  constructor
  · intro h
    rw [ByteArray.toList_eq, ByteArray.toList_eq] at h
    have h2 : s.extract a (a + 2) = ⟨#[100, 117]⟩ := ByteArray.ext (Array.toList_inj.1 h)
    rw [h2] at e0 e1
    rw [f0] at e0
    rw [f1] at e1
    rw [Nat.add_zero] at e0
    exact ⟨e0.symm, e1.symm⟩
  · rintro ⟨h0, h1⟩
    have : s.extract a (a + 2) = ⟨#[100, 117]⟩ := str_ext (by omega) (fun k hk => by
      have : k = 0 ∨ k = 1 := by omega
      rcases this with rfl | rfl
      · rw [e0, f0, Nat.add_zero, h0]
      · rw [e1, f1, h1])
    rw [this]

end Go.Proofs.Ytjjaildejonmfaa
