/- From trees to paths, and the mirror of a tree: the contracts of the model's l6Path, PathOfBinary, l6Mirror, MirrorBinary. -/
import Derived.Test.YtpelicepgeoopaaSpec6C
namespace Go.Proofs.Ytpelicepgeoopaa
open Go.ChangeShapes Go.WideShapes Go.ChangeAt Go.RowKit
open Go.PlainAid (bt bt_nonneg bt_le get_bt bt_end)
set_option linter.unusedVariables false

theorem no_size : (⟨#[]⟩ : ByteArray).size = 0 := rfl

/-- The path of a tree. -/
def pathF : Nat → ByteArray → ByteArray
  | 0, _ => ⟨#[]⟩
  | f + 1, s => if s.size ≤ 1 then ⟨#[]⟩ else ((⟨#[117]⟩ ++ pathF f (s.extract 1 (endP s 1).toNat)) ++ ⟨#[100]⟩) ++ pathF f (s.extract (endP s 1).toNat (s.size - 1))
theorem pathF_none (f : Nat) {s : ByteArray} (h : s.size ≤ 1) : pathF f s = ⟨#[]⟩ := by
  cases f with
  | zero => rfl
  | succ f => rw [pathF, if_pos h]
theorem pathF_more (f x : Nat) {s : ByteArray} (h : 1 < s.size) (hx : endP s 1 = (x : Int)) : pathF (f + 1) s = ((⟨#[117]⟩ ++ pathF f (s.extract 1 x)) ++ ⟨#[100]⟩) ++ pathF f (s.extract x (s.size - 1)) := by
  rw [pathF, if_neg (by omega), hx]; rfl
theorem pathF_size : ∀ (f : Nat) (s : ByteArray), (pathF f s).size ≤ 4 * s.size + 0 := by
  intro f
  induction f with
  | zero => intro s; show (⟨#[]⟩ : ByteArray).size ≤ _; first | (rw [one_size]; omega) | (rw [no_size]; omega)
  | succ f ih =>
    intro s
    rw [pathF]
    split
    · first | (rw [one_size]; omega) | (rw [no_size]; omega)
    · rename_i h
      have i1 := ih (s.extract 1 (endP s 1).toNat)
      have i2 := ih (s.extract (endP s 1).toNat (s.size - 1))
      rw [ByteArray.size_extract] at i1 i2
      simp only [ByteArray.size_append, one_size]
      omega

def pobiP (s : ByteArray) : ByteArray := if binB s = true then pathF s.size s else ⟨#[]⟩
/-- The mirror of a tree. -/
def mirF : Nat → ByteArray → ByteArray
  | 0, _ => ⟨#[46]⟩
  | f + 1, s => if s.size ≤ 1 then ⟨#[46]⟩ else ((⟨#[40]⟩ ++ mirF f (s.extract (endP s 1).toNat (s.size - 1))) ++ mirF f (s.extract 1 (endP s 1).toNat)) ++ ⟨#[41]⟩
theorem mirF_none (f : Nat) {s : ByteArray} (h : s.size ≤ 1) : mirF f s = ⟨#[46]⟩ := by
  cases f with
  | zero => rfl
  | succ f => rw [mirF, if_pos h]
theorem mirF_more (f x : Nat) {s : ByteArray} (h : 1 < s.size) (hx : endP s 1 = (x : Int)) : mirF (f + 1) s = ((⟨#[40]⟩ ++ mirF f (s.extract x (s.size - 1))) ++ mirF f (s.extract 1 x)) ++ ⟨#[41]⟩ := by
  rw [mirF, if_neg (by omega), hx]; rfl
theorem mirF_size : ∀ (f : Nat) (s : ByteArray), (mirF f s).size ≤ 4 * s.size + 1 := by
  intro f
  induction f with
  | zero => intro s; show (⟨#[46]⟩ : ByteArray).size ≤ _; first | (rw [one_size]; omega) | (rw [no_size]; omega)
  | succ f ih =>
    intro s
    rw [mirF]
    split
    · first | (rw [one_size]; omega) | (rw [no_size]; omega)
    · rename_i h
      have i1 := ih (s.extract 1 (endP s 1).toNat)
      have i2 := ih (s.extract (endP s 1).toNat (s.size - 1))
      rw [ByteArray.size_extract] at i1 i2
      simp only [ByteArray.size_append, one_size]
      omega

def mirBP (s : ByteArray) : ByteArray := if binB s = true then mirF s.size s else ⟨#[]⟩
end Go.Proofs.Ytpelicepgeoopaa
