/- The contracts of the model's HeightsOf, ReturnsOf and AreaOf. -/
import Derived.Test.YtkpnfonedfomaaaSpec2A
import Derived.Test.YtkpnfonedfomaaaInts
namespace Go.Proofs.Ytkpnfonedfomaaa
open Go.ChangeShapes Go.WideShapes Go.ChangeAt Go.RowKit
open Go.PlainAid (bt bt_nonneg bt_le get_bt)
set_option linter.unusedVariables false

/-- The heights before each letter and at the end, from height h on. -/
def hsL : Int → List UInt8 → List Int
  | h, [] => [h]
  | h, c :: l => h :: hsL (if c.toNat = 117 then h + 1 else h - 1) l
theorem hsL_nil (h : Int) : hsL h [] = [h] := rfl
theorem hsL_up (h : Int) (c : UInt8) (l : List UInt8) (e : c.toNat = 117) : hsL h (c :: l) = h :: hsL (h + 1) l := by rw [hsL, if_pos e]
theorem hsL_down (h : Int) (c : UInt8) (l : List UInt8) (e : c.toNat ≠ 117) : hsL h (c :: l) = h :: hsL (h - 1) l := by rw [hsL, if_neg e]
theorem hsL_len (h : Int) (l : List UInt8) : (hsL h l).length = l.length + 1 := by
  induction l generalizing h with
  | nil => rfl
  | cons c l ih => rw [hsL, List.length_cons, ih, List.length_cons]
def heightsP (s : ByteArray) : List Int := if dyck s = true then hsL 0 s.data.toList else []
theorem heightsP_yes {s : ByteArray} (h : dyck s = true) : heightsP s = hsL 0 s.data.toList := if_pos h
theorem heightsP_no {s : ByteArray} (h : dyck s = false) : heightsP s = [] := if_neg (by simp [h])
theorem heightsP_len (s : ByteArray) : (heightsP s).length ≤ 17 := by
  unfold heightsP
  split
  · rename_i h
    have := dyck_size h
    rw [hsL_len]; simp; omega
  · simp

/-- A function that answers the ints xs in memory of its own. -/
def AnsI (xs : List Int) (w : World) (e : Ending) (w' : World) : Prop := ∃ v, e = .returned v ∧ OwnI w' w.heap.size w'.heap.size v xs ∧ Below w.heap.size w w'

end Go.Proofs.Ytkpnfonedfomaaa
