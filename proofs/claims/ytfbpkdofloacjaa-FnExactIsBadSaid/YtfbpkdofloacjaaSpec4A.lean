/- The contracts of the model's BracketsOf, PathOfBrackets, NestedPairs, ShiftBrackets. -/
import Derived.Test.YtfbpkdofloacjaaSpec2E
import Derived.Test.YtfbpkdofloacjaaSpec2C
namespace Go.Proofs.Ytfbpkdofloacjaa
open Go.ChangeShapes Go.WideShapes Go.ChangeAt Go.RowKit
open Go.PlainAid (bt bt_nonneg bt_le get_bt)
set_option linter.unusedVariables false

/-- The parentheses of the first k letters. -/
def brL (s : ByteArray) : Nat → List UInt8
  | 0 => []
  | k + 1 => brL s k ++ [if bt s k = 117 then 40 else 41]
theorem brL_len (s : ByteArray) (k : Nat) : (brL s k).length = k := by
  induction k with
  | zero => rfl
  | succ k ih => rw [brL, List.length_append, ih]; rfl
def bracketsP (s : ByteArray) : ByteArray := if dyck s = true then ⟨(brL s s.size).toArray⟩ else ⟨#[]⟩

/-- The letters of the first k parentheses. -/
def pbL (s : ByteArray) : Nat → List UInt8
  | 0 => []
  | k + 1 => pbL s k ++ [if bt s k = 40 then 117 else 100]
theorem pbL_len (s : ByteArray) (k : Nat) : (pbL s k).length = k := by
  induction k with
  | zero => rfl
  | succ k ih => rw [pbL, List.length_append, ih]; rfl
def pobW (s : ByteArray) : ByteArray := ⟨(pbL s s.size).toArray⟩
theorem pobW_size (s : ByteArray) : (pobW s).size = s.size := by unfold pobW; rw [str_len, pbL_len]
def pobGood (s : ByteArray) : Prop := s.size ≤ 16 ∧ (∀ j, j < s.size → bt s j = 40 ∨ bt s j = 41) ∧ dyck (pobW s) = true
open Classical in
noncomputable def pobOk (s : ByteArray) : Bool := decide (pobGood s)
noncomputable def pobP (s : ByteArray) : ByteArray := if pobOk s = true then pobW s else ⟨#[]⟩
open Classical in
theorem pob_no {s : ByteArray} (h : ¬ pobGood s) : pobOk s = false ∧ pobP s = ⟨#[]⟩ := by
  have : pobOk s = false := by unfold pobOk; exact decide_eq_false h
  exact ⟨this, by unfold pobP; rw [this]; rfl⟩
open Classical in
theorem pob_yes {s : ByteArray} (h : pobGood s) : pobOk s = true ∧ pobP s = pobW s := by
  have : pobOk s = true := by unfold pobOk; exact decide_eq_true h
  exact ⟨this, by unfold pobP; rw [this]; rfl⟩

/-- What NestedPairs answers. -/
noncomputable def nestedP (s : ByteArray) : Int := if pobOk s = true then areaP (pobW s) else -1
/-- What ShiftBrackets answers. -/
def shW (s : ByteArray) (k : Nat) : ByteArray := ((s.extract 1 k ++ ⟨#[40]⟩) ++ s.extract (k + 1) s.size) ++ ⟨#[41]⟩
noncomputable def shiftP (s : ByteArray) : ByteArray := if pobOk s = true ∧ 0 < s.size then shW s (cutP (pobW s)).toNat else ⟨#[]⟩
end Go.Proofs.Ytfbpkdofloacjaa
