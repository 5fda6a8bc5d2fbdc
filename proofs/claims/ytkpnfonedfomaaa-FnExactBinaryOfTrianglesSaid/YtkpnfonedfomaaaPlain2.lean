/- Plain words on paths: what the functions of chapter 2 answer, as functions on lists of letters. -/
import Derived.Lib.Hide
import Derived.PlainAid
import Derived.Below
namespace Go.Proofs.Ytkpnfonedfomaaa
open Go.RowKit
open Go.PlainAid (bt bt_nonneg bt_le get_bt)
set_option linter.unusedVariables false

/-- The letters from place k on. -/
def rest (s : ByteArray) (k : Nat) : List UInt8 := s.data.toList.drop k
theorem rest_zero (s : ByteArray) : rest s 0 = s.data.toList := rfl
theorem rest_cons (s : ByteArray) (k : Nat) (h : k < s.size) : rest s k = s[k] :: rest s (k + 1) := by
  unfold rest
  rw [List.drop_eq_getElem_cons (by simpa using h)]
  rfl
theorem rest_end (s : ByteArray) (k : Nat) (h : s.size ≤ k) : rest s k = [] := List.drop_of_length_le (by simpa using h)
theorem bt_at (s : ByteArray) (k : Nat) (h : k < s.size) : bt s k = (s[k].toNat : Int) := (get_bt s k h).symm

/-- From height h on the letters never go below 0 and end at 0. -/
def dyckFrom : Nat → List UInt8 → Bool
  | h, [] => h == 0
  | h, c :: l => if c.toNat = 117 then dyckFrom (h + 1) l else if c.toNat = 100 then (match h with | 0 => false | k + 1 => dyckFrom k l) else false
theorem df_nil (h : Nat) : dyckFrom h [] = (h == 0) := by unfold dyckFrom; rfl
theorem df_up (h : Nat) (c : UInt8) (l : List UInt8) (e : c.toNat = 117) : dyckFrom h (c :: l) = dyckFrom (h + 1) l := by
  conv => lhs; unfold dyckFrom
  rw [if_pos e]
theorem df_down (h : Nat) (c : UInt8) (l : List UInt8) (e : c.toNat = 100) : dyckFrom (h + 1) (c :: l) = dyckFrom h l := by
  conv => lhs; unfold dyckFrom
  rw [if_neg (by omega), if_pos e]
theorem df_below (c : UInt8) (l : List UInt8) (e : c.toNat = 100) : dyckFrom 0 (c :: l) = false := by
  unfold dyckFrom
  rw [if_neg (by omega), if_pos e]
theorem df_other (h : Nat) (c : UInt8) (l : List UInt8) (e : c.toNat ≠ 117) (e' : c.toNat ≠ 100) : dyckFrom h (c :: l) = false := by
  unfold dyckFrom
  rw [if_neg e, if_neg e']
/-- A path of a size of at most 8. -/
def dyck (s : ByteArray) : Bool := decide (s.size ≤ 16) && dyckFrom 0 s.data.toList
theorem dyck_long {s : ByteArray} (h : 16 < s.size) : dyck s = false := by unfold dyck; rw [decide_eq_false (by omega)]; rfl
theorem dyck_short {s : ByteArray} (h : s.size ≤ 16) : dyck s = dyckFrom 0 s.data.toList := by unfold dyck; rw [decide_eq_true h]; rfl
theorem dyck_size {s : ByteArray} (h : dyck s = true) : s.size ≤ 16 := by
  unfold dyck at h
  simp only [Bool.and_eq_true, decide_eq_true_eq] at h
  exact h.1
/-- In a path that goes on from height h each letter is u or d, and a d does not go below 0. -/
theorem df_letter {h : Nat} {c : UInt8} {l : List UInt8} (hd : dyckFrom h (c :: l) = true) : (c.toNat = 117 ∧ dyckFrom (h + 1) l = true) ∨ (c.toNat = 100 ∧ 1 ≤ h ∧ dyckFrom (h - 1) l = true) := by
  by_cases e : c.toNat = 117
  · exact .inl ⟨e, by rwa [df_up h c l e] at hd⟩
  · by_cases e' : c.toNat = 100
    · rcases h with _ | k
      · rw [df_below c l e'] at hd; cases hd
      · rw [df_down k c l e'] at hd
        exact .inr ⟨e', by omega, hd⟩
    · rw [df_other h c l e e'] at hd; cases hd

end Go.Proofs.Ytkpnfonedfomaaa
