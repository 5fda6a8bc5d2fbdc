/- The contracts of the model's ReturnsOf, AreaOf, PeaksOf. -/
import Derived.Test.YtkpnfonedfomaaaSpec2B
namespace Go.Proofs.Ytkpnfonedfomaaa
open Go.ChangeShapes Go.WideShapes Go.ChangeAt Go.RowKit
open Go.PlainAid (bt bt_nonneg bt_le get_bt)
set_option linter.unusedVariables false

/-- How many zeros. -/
def zeros : List Int → Nat
  | [] => 0
  | x :: l => (if x = 0 then 1 else 0) + zeros l
theorem zeros_snoc (l : List Int) (x : Int) : zeros (l ++ [x]) = zeros l + if x = 0 then 1 else 0 := by
  induction l with
  | nil => simp [zeros]
  | cons y l ih => simp only [List.cons_append, zeros, ih]; omega
theorem zeros_le (l : List Int) : zeros l ≤ l.length := by
  induction l with
  | nil => simp [zeros]
  | cons y l ih => simp only [zeros, List.length_cons]; split <;> omega
theorem take_int (xs : List Int) (i : Nat) (h : i < xs.length) : xs.take (i + 1) = xs.take i ++ [xs.getD i 0] := by
  rw [List.take_succ_eq_append_getElem h, List.getD_eq_getElem?_getD, List.getElem?_eq_getElem h]; rfl
def returnsP (s : ByteArray) : Int := (zeros (heightsP s) : Int) - 1

/-- The sum of the heights before the letters u. -/
def aL : List UInt8 → List Int → Int
  | c :: l, x :: xs => (if c.toNat = 117 then x else 0) + aL l xs
  | _, _ => 0
theorem aL_up (c : UInt8) (l : List UInt8) (x : Int) (xs : List Int) (e : c.toNat = 117) : aL (c :: l) (x :: xs) = x + aL l xs := by rw [aL, if_pos e]
theorem aL_down (c : UInt8) (l : List UInt8) (x : Int) (xs : List Int) (e : c.toNat ≠ 117) : aL (c :: l) (x :: xs) = aL l xs := by rw [aL, if_neg e]; omega
theorem aL_nil (xs : List Int) : aL [] xs = 0 := by cases xs <;> rfl
theorem drop_int (xs : List Int) (i : Nat) (h : i < xs.length) : xs.drop i = xs.getD i 0 :: xs.drop (i + 1) := by
  rw [List.drop_eq_getElem_cons h, List.getD_eq_getElem?_getD, List.getElem?_eq_getElem h]; rfl
theorem hsL_bd (h : Int) (l : List UInt8) : ∀ x ∈ hsL h l, h - l.length ≤ x ∧ x ≤ h + l.length := by
  induction l generalizing h with
  | nil => intro x hx; simp [hsL] at hx; subst hx; simp
  | cons c l ih =>
    intro x hx
    rw [hsL] at hx
    simp only [List.length_cons]
    rcases List.mem_cons.1 hx with rfl | hx
    · omega
    · have := ih _ x hx
      split at this <;> omega
theorem heightsP_bd (s : ByteArray) (i : Nat) (h : i < (heightsP s).length) : -16 ≤ (heightsP s).getD i 0 ∧ (heightsP s).getD i 0 ≤ 16 := by
  have hm : (heightsP s).getD i 0 ∈ heightsP s := by
    rw [List.getD_eq_getElem?_getD, List.getElem?_eq_getElem h]; exact List.getElem_mem _
  unfold heightsP at hm ⊢
  split at hm
  · rename_i hd
    rw [if_pos hd]
    have h1 := hsL_bd 0 s.data.toList _ hm
    have h2 := dyck_size hd
    have h3 : s.data.toList.length = s.size := by simp
    omega
  · simp at hm
def areaP (s : ByteArray) : Int := if dyck s = true then aL s.data.toList (hsL 0 s.data.toList) else -1

end Go.Proofs.Ytkpnfonedfomaaa
