/- The contracts of the model's l2Cut, FirstReturn and JoinAtReturn. -/
import Derived.Test.YtkpnfonedfomaaaSpec2D
namespace Go.Proofs.Ytkpnfonedfomaaa
open Go.ChangeShapes Go.WideShapes Go.ChangeAt Go.RowKit
open Go.PlainAid (bt bt_nonneg bt_le get_bt)
set_option linter.unusedVariables false

/-- The place where a word that is read from place i on at height h comes to height 0 first; -1 if it never does. -/
def cutL : Int → List UInt8 → Nat → Int
  | _, [], _ => -1
  | h, c :: l, i => if (if c.toNat = 117 then h + 1 else h - 1) = 0 then i else cutL (if c.toNat = 117 then h + 1 else h - 1) l (i + 1)
theorem cutL_nil (h : Int) (i : Nat) : cutL h [] i = -1 := rfl
theorem cutL_hit (h : Int) (c : UInt8) (l : List UInt8) (i : Nat) (e : (if c.toNat = 117 then h + 1 else h - 1) = 0) : cutL h (c :: l) i = i := by rw [cutL, if_pos e]
theorem cutL_miss (h : Int) (c : UInt8) (l : List UInt8) (i : Nat) (e : ¬ (if c.toNat = 117 then h + 1 else h - 1) = 0) : cutL h (c :: l) i = cutL (if c.toNat = 117 then h + 1 else h - 1) l (i + 1) := by rw [cutL, if_neg e]
def cutP (s : ByteArray) : Int := cutL 0 s.data.toList 0
/-- From a height above 0 a path comes back to 0; what is behind is a path. -/
theorem cutL_in : ∀ (l : List UInt8) (h : Nat) (i : Nat), 1 ≤ h → dyckFrom h l = true → ∃ k : Nat, cutL h l i = ((i + k : Nat) : Int) ∧ k < l.length ∧ dyckFrom 0 (l.drop (k + 1)) = true := by
  intro l
  induction l with
  | nil => intro h i hh hd; rw [df_nil] at hd; simp at hd; omega
  | cons c l ih =>
    intro h i hh hd
    rcases df_letter hd with ⟨e, hd'⟩ | ⟨e, h1, hd'⟩
    · obtain ⟨k, e1, e2, e3⟩ := ih (h + 1) (i + 1) (by omega) hd'
      refine ⟨k + 1, ?_, by simp only [List.length_cons]; omega, by simpa using e3⟩
      rw [cutL_miss _ _ _ _ (by rw [if_pos e]; omega), if_pos e]
      rw [show ((h : Int) + 1) = ((h + 1 : Nat) : Int) by omega, e1]
      congr 1; omega
    · by_cases h0 : h = 1
      · subst h0
        refine ⟨0, ?_, by simp, by simpa using hd'⟩
        rw [cutL_hit _ _ _ _ (by rw [if_neg (by omega)]; omega)]
        simp
      · obtain ⟨k, e1, e2, e3⟩ := ih (h - 1) (i + 1) (by omega) hd'
        refine ⟨k + 1, ?_, by simp only [List.length_cons]; omega, by simpa using e3⟩
        rw [cutL_miss _ _ _ _ (by rw [if_neg (by omega)]; omega), if_neg (by omega)]
        rw [show ((h : Int) - 1) = ((h - 1 : Nat) : Int) by omega, e1]
        congr 1; omega
theorem cutP_in {s : ByteArray} (hd : dyck s = true) (h0 : 0 < s.size) : ∃ k : Nat, cutP s = (k : Int) ∧ 1 ≤ k ∧ k < s.size ∧ dyckFrom 0 (rest s (k + 1)) = true := by
  have h16 := dyck_size hd
  rw [dyck_short h16, ← rest_zero, rest_cons s 0 h0] at hd
  rcases df_letter hd with ⟨e, hd'⟩ | ⟨e, h1, hd'⟩
  · obtain ⟨k, e1, e2, e3⟩ := cutL_in (rest s 1) 1 1 (by omega) hd'
    have hl : (rest s 1).length = s.size - 1 := by simp [rest]
    refine ⟨k + 1, ?_, by omega, by omega, ?_⟩
    · unfold cutP
      rw [← rest_zero, rest_cons s 0 h0, cutL_miss _ _ _ _ (by rw [if_pos e]; omega), if_pos e]
      have : (0 : Int) + 1 = ((1 : Nat) : Int) := rfl
      rw [this, e1]; congr 1; omega
    · have : (rest s 1).drop (k + 1) = rest s (k + 1 + 1) := by unfold rest; rw [List.drop_drop]; congr 1; omega
      rw [← this]; exact e3
  · omega

theorem str_full (F : ByteArray) (h : 1 ≤ F.size) : F.toList.isEmpty = false := by
  rw [ByteArray.toList_eq, List.isEmpty_eq_false_iff]
  intro e
  have : F.data.toList.length = F.size := by simp
  rw [e] at this
  simp at this
  omega
theorem str_none (F : ByteArray) (h : F.size = 0) : F.toList.isEmpty = true := by
  rw [ByteArray.toList_eq]
  have : F.data.toList.length = F.size := by simp
  rw [h] at this
  rw [List.eq_nil_of_length_eq_zero this]; rfl
/-- What FirstReturn answers. -/
def firstA (s : ByteArray) : ByteArray := if dyck s = true ∧ 0 < s.size then s.extract 1 (cutP s).toNat else ⟨#[]⟩
def firstB (s : ByteArray) : ByteArray := if dyck s = true ∧ 0 < s.size then s.extract ((cutP s).toNat + 1) s.size else ⟨#[]⟩
def firstOk (s : ByteArray) : Bool := decide (dyck s = true ∧ 0 < s.size)
theorem ret_ssb {a b a' b' : ByteArray} {x y : Bool} (h : a = a') (h2 : b = b') (h' : x = y) : Ending.returned (.tuple #[.string a, .string b, .bool x]) = .returned (.tuple #[.string a', .string b', .bool y]) := by rw [h, h2, h']

/-- What JoinAtReturn answers. -/
def joinW (a b : ByteArray) : ByteArray := ((⟨#[117]⟩ ++ a) ++ ⟨#[100]⟩) ++ b
theorem joinW_size (a b : ByteArray) : (joinW a b).size = a.size + b.size + 2 := by
  unfold joinW
  simp only [ByteArray.size_append]
  have e1 : (⟨#[117]⟩ : ByteArray).size = 1 := rfl
  have e2 : (⟨#[100]⟩ : ByteArray).size = 1 := rfl
  omega
def joinOk (a b : ByteArray) : Bool := dyck a && dyck b && dyck (joinW a b)
def joinP (a b : ByteArray) : ByteArray := if joinOk a b = true then joinW a b else ⟨#[]⟩

end Go.Proofs.Ytkpnfonedfomaaa
