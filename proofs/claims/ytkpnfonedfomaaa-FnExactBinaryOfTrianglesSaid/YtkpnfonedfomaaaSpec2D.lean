/- The contracts of the model's PeaksOf and ReversePath. -/
import Derived.Test.YtkpnfonedfomaaaSpec2C
namespace Go.Proofs.Ytkpnfonedfomaaa
open Go.ChangeShapes Go.WideShapes Go.ChangeAt Go.RowKit
open Go.PlainAid (bt bt_nonneg bt_le get_bt)
set_option linter.unusedVariables false

/-- How many of the first k places bear a u with a d behind it. -/
def pkN (s : ByteArray) : Nat → Nat
  | 0 => 0
  | k + 1 => pkN s k + if bt s k = 117 ∧ bt s (k + 1) = 100 then 1 else 0
theorem pkN_le (s : ByteArray) (k : Nat) : pkN s k ≤ k := by
  induction k with
  | zero => simp [pkN]
  | succ k ih => rw [pkN]; split <;> omega
def peaksP (s : ByteArray) : Int := if dyck s = true then (pkN s (s.size - 1) : Int) else -1
theorem two_at {s : ByteArray} {j : Nat} (h : j + 1 < s.size) : (s.extract j (j + 1 + 1)).toList = [s[j], s[j + 1]] := by
  rw [ByteArray.toList_eq]
  apply List.ext_getElem?
  intro i
  have h1 : (s.extract j (j + 1 + 1)).data.toList = (s.data.toList.drop j).take 2 := by
    simp only [ByteArray.data_extract, Array.toList_extract]
    rw [List.extract_eq_take_drop]
    congr 1
    omega
  rw [h1, List.getElem?_take]
  by_cases hi : i < 2
  · rw [if_pos hi, List.getElem?_drop, Array.getElem?_toList]
    rcases (show i = 0 ∨ i = 1 by omega) with rfl | rfl
    · rw [Array.getElem?_eq_getElem (show j + 0 < s.data.size from by show j + 0 < s.size; omega)]; rfl
    · rw [Array.getElem?_eq_getElem (show j + 1 < s.data.size from by show j + 1 < s.size; omega)]; rfl
  · rw [if_neg hi, List.getElem?_eq_none (by simp; omega)]
theorem two_ud {s : ByteArray} {j : Nat} (h : j + 1 < s.size) (e : bt s j = 117 ∧ bt s (j + 1) = 100) : ((s.extract j (j + 1 + 1)).toList == [117, 100]) = true := by
  rw [two_at h]
  rw [bt_at s j (by omega), bt_at s (j + 1) h] at e
  have a : s[j] = 117 := UInt8.toNat_inj.1 (by have : (117 : UInt8).toNat = 117 := rfl; omega)
  have b : s[j + 1] = 100 := UInt8.toNat_inj.1 (by have : (100 : UInt8).toNat = 100 := rfl; omega)
  rw [a, b]; rfl
theorem two_not {s : ByteArray} {j : Nat} (h : j + 1 < s.size) (e : ¬ (bt s j = 117 ∧ bt s (j + 1) = 100)) : ((s.extract j (j + 1 + 1)).toList == [117, 100]) = false := by
  rw [two_at h, beq_eq_false_iff_ne]
  intro hh
  simp only [List.cons.injEq] at hh
  apply e
  rw [bt_at s j (by omega), bt_at s (j + 1) h, hh.1, hh.2.1]
  exact ⟨rfl, rfl⟩

/-- The word backwards with u and d exchanged, of the letters behind place k. -/
def backL (s : ByteArray) : Nat → List UInt8
  | 0 => []
  | k + 1 => (if bt s (s.size - 1 - k) = 117 then 100 else 117) :: [] |> (backL s k ++ ·)
theorem backL_succ (s : ByteArray) (k : Nat) : backL s (k + 1) = backL s k ++ [if bt s (s.size - 1 - k) = 117 then 100 else 117] := rfl
theorem backL_len (s : ByteArray) (k : Nat) : (backL s k).length = k := by
  induction k with
  | zero => rfl
  | succ k ih => rw [backL_succ, List.length_append, ih]; rfl
def reverseP (s : ByteArray) : ByteArray := if dyck s = true then ⟨(backL s s.size).toArray⟩ else ⟨#[]⟩
theorem ret_sb {a b : ByteArray} {x y : Bool} (h : a = b) (h' : x = y) : Ending.returned (.tuple #[.string a, .bool x]) = .returned (.tuple #[.string b, .bool y]) := by rw [h, h']
theorem str_snoc (l : List UInt8) (c : UInt8) : (⟨l.toArray⟩ : ByteArray) ++ ⟨#[c]⟩ = ⟨(l ++ [c]).toArray⟩ := by
  have : (⟨#[c]⟩ : ByteArray) = ⟨[c].toArray⟩ := rfl
  rw [this, ByteArray.mk_append_mk]
theorem str_len (l : List UInt8) : (⟨l.toArray⟩ : ByteArray).size = l.length := by simp [ByteArray.size]

end Go.Proofs.Ytkpnfonedfomaaa
