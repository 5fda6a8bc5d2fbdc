/- The contracts of the model's l6End, IsBinary, NodesOf, PartsOfBinary. -/
import Derived.Test.YtpelicepgeoopaaSpec2E
namespace Go.Proofs.Ytpelicepgeoopaa
open Go.ChangeShapes Go.WideShapes Go.ChangeAt Go.RowKit
open Go.PlainAid (bt bt_nonneg bt_le get_bt bt_end)
set_option linter.unusedVariables false

/-- The place behind the tree that begins at a place, or -1. -/
def endF (s : ByteArray) : Nat → Nat → Int
  | 0, _ => -1
  | f + 1, a => if s.size ≤ a then -1 else if bt s a = 46 then (a : Int) + 1 else if bt s a ≠ 40 then -1 else if endF s f (a + 1) < 0 then -1 else
      if endF s f (endF s f (a + 1)).toNat < 0 ∨ (s.size : Int) ≤ endF s f (endF s f (a + 1)).toNat ∨ bt s (endF s f (endF s f (a + 1)).toNat).toNat ≠ 41 then -1 else endF s f (endF s f (a + 1)).toNat + 1
theorem endF_end (s : ByteArray) (f a : Nat) (h : s.size ≤ a) : endF s f a = -1 := by
  cases f with
  | zero => rfl
  | succ f => rw [endF, if_pos h]
theorem endF_dot (s : ByteArray) (f a : Nat) (h : ¬ s.size ≤ a) (e : bt s a = 46) : endF s (f + 1) a = (a : Int) + 1 := by rw [endF, if_neg h, if_pos e]
theorem endF_other (s : ByteArray) (f a : Nat) (h : ¬ s.size ≤ a) (e : bt s a ≠ 46) (e2 : bt s a ≠ 40) : endF s (f + 1) a = -1 := by rw [endF, if_neg h, if_neg e, if_pos e2]
theorem endF_left (s : ByteArray) (f a : Nat) (h : ¬ s.size ≤ a) (e : bt s a = 40) (hx : endF s f (a + 1) < 0) : endF s (f + 1) a = -1 := by rw [endF, if_neg h, if_neg (by omega), if_neg (by omega), if_pos hx]
theorem endF_pair (s : ByteArray) (f a x : Nat) (h : ¬ s.size ≤ a) (e : bt s a = 40) (hx : endF s f (a + 1) = x) :
    endF s (f + 1) a = if endF s f x < 0 ∨ (s.size : Int) ≤ endF s f x ∨ bt s (endF s f x).toNat ≠ 41 then -1 else endF s f x + 1 := by
  rw [endF, if_neg h, if_neg (by omega), if_neg (by omega), if_neg (by omega), hx]
  rfl
theorem endF_in (s : ByteArray) : ∀ f a, endF s f a = -1 ∨ ((a : Int) < endF s f a ∧ endF s f a ≤ s.size) := by
  intro f
  induction f with
  | zero => intro a; exact .inl rfl
  | succ f ih =>
    intro a
    by_cases h : s.size ≤ a
    · exact .inl (endF_end s _ a h)
    · by_cases e : bt s a = 46
      · rw [endF_dot s f a h e]; right; omega
      · by_cases e2 : bt s a = 40
        · rcases ih (a + 1) with hx | ⟨x1, x2⟩
          · exact .inl (endF_left s f a h e2 (by omega))
          · obtain ⟨x, hx⟩ : ∃ x : Nat, endF s f (a + 1) = x := ⟨(endF s f (a + 1)).toNat, by omega⟩
            rw [endF_pair s f a x h e2 hx]
            split
            · exact .inl rfl
            · rename_i hn
              right
              rcases ih x with hy | ⟨y1, y2⟩ <;> omega
        · exact .inl (endF_other s f a h e e2)
theorem endF_fuel (s : ByteArray) : ∀ f g a, s.size + 1 ≤ a + f → s.size + 1 ≤ a + g → endF s f a = endF s g a := by
  intro f
  induction f with
  | zero => intro g a h1 h2; rw [endF_end s _ a (by omega), endF_end s _ a (by omega)]
  | succ f ih =>
    intro g a h1 h2
    by_cases h : s.size ≤ a
    · rw [endF_end s _ a h, endF_end s _ a h]
    · obtain ⟨g, rfl⟩ : ∃ g', g = g' + 1 := ⟨g - 1, by omega⟩
      by_cases e : bt s a = 46
      · rw [endF_dot s f a h e, endF_dot s g a h e]
      · by_cases e2 : bt s a = 40
        · have hr := ih g (a + 1) (by omega) (by omega)
          rcases endF_in s f (a + 1) with hx | ⟨x1, x2⟩
          · rw [endF_left s f a h e2 (by omega), endF_left s g a h e2 (by omega)]
          · obtain ⟨x, hx⟩ : ∃ x : Nat, endF s f (a + 1) = x := ⟨(endF s f (a + 1)).toNat, by omega⟩
            rw [endF_pair s f a x h e2 hx, endF_pair s g a x h e2 (by omega), ih g x (by omega) (by omega)]
        · rw [endF_other s f a h e e2, endF_other s g a h e e2]
def endP (s : ByteArray) (a : Nat) : Int := endF s (s.size + 1) a
theorem endP_of (s : ByteArray) (f a : Nat) (h : s.size + 1 ≤ a + f) : endF s f a = endP s a := endF_fuel s _ _ a h (by omega)
theorem endP_in (s : ByteArray) (a : Nat) : endP s a = -1 ∨ ((a : Int) < endP s a ∧ endP s a ≤ s.size) := endF_in s _ a
theorem endP_dot (s : ByteArray) (a : Nat) (h : ¬ s.size ≤ a) (e : bt s a = 46) : endP s a = (a : Int) + 1 := endF_dot s _ a h e
theorem endP_other (s : ByteArray) (a : Nat) (h : ¬ s.size ≤ a) (e : bt s a ≠ 46) (e2 : bt s a ≠ 40) : endP s a = -1 := endF_other s _ a h e e2
theorem endP_left (s : ByteArray) (a : Nat) (h : ¬ s.size ≤ a) (e : bt s a = 40) (hx : endP s (a + 1) < 0) : endP s a = -1 := endF_left s _ a h e (by rw [endP_of s _ _ (by omega)]; exact hx)
theorem endP_pair (s : ByteArray) (a x : Nat) (h : ¬ s.size ≤ a) (e : bt s a = 40) (hx : endP s (a + 1) = x) :
    endP s a = if endP s x < 0 ∨ (s.size : Int) ≤ endP s x ∨ bt s (endP s x).toNat ≠ 41 then -1 else endP s x + 1 := by
  have hxx := endP_in s (a + 1)
  have := endF_pair s s.size a x h e (by rw [endP_of s _ _ (by omega)]; exact hx)
  rw [endP_of s s.size x (by omega)] at this
  exact this

/-- Is it a tree. -/
def binB (s : ByteArray) : Bool := decide (s.size ≤ 25) && (endP s 0 == (s.size : Int))
theorem bin_full {s : ByteArray} (h : binB s = true) : s.size ≤ 25 ∧ endP s 0 = (s.size : Int) ∧ 0 < s.size := by
  unfold binB at h
  simp only [Bool.and_eq_true, decide_eq_true_eq, beq_iff_eq] at h
  have := endP_in s 0
  omega

end Go.Proofs.Ytpelicepgeoopaa
