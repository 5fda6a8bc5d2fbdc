/- The contract of the model's PrimesOf. -/
import Derived.Test.YtkpnfonedfomaaaSpec2E
import Derived.Test.YtkpnfonedfomaaaLawLists
namespace Go.Proofs.Ytkpnfonedfomaaa
open Go.ChangeShapes Go.WideShapes Go.ChangeAt Go.RowKit
open Go.PlainAid (bt bt_nonneg bt_le get_bt)
set_option linter.unusedVariables false

/-- The parts of a path between its returns. -/
def primesF : Nat → ByteArray → List ByteArray
  | 0, _ => []
  | n + 1, s => if dyck s = true ∧ 0 < s.size then s.extract 0 ((cutP s).toNat + 1) :: primesF n (s.extract ((cutP s).toNat + 1) s.size) else []
theorem primesF_yes (n : Nat) (s : ByteArray) (h : dyck s = true ∧ 0 < s.size) : primesF (n + 1) s = s.extract 0 ((cutP s).toNat + 1) :: primesF n (s.extract ((cutP s).toNat + 1) s.size) := if_pos h
theorem primesF_no (n : Nat) (s : ByteArray) (h : ¬ (dyck s = true ∧ 0 < s.size)) : primesF n s = [] := by
  cases n with
  | zero => rfl
  | succ n => exact if_neg h
theorem primesF_len : ∀ (n : Nat) (s : ByteArray), (primesF n s).length ≤ s.size := by
  intro n
  induction n with
  | zero => intro s; exact Nat.zero_le _
  | succ n ih =>
    intro s
    by_cases h : dyck s = true ∧ 0 < s.size
    · rw [primesF_yes n s h, List.length_cons]
      have := ih (s.extract ((cutP s).toNat + 1) s.size)
      rw [ByteArray.size_extract] at this
      obtain ⟨h1, h2⟩ := h
      omega
    · rw [primesF_no _ s h]; exact Nat.zero_le _
def primesP (s : ByteArray) : List ByteArray := primesF (s.size + 1) s
theorem primesP_len (s : ByteArray) : (primesP s).length ≤ s.size := primesF_len _ s

end Go.Proofs.Ytkpnfonedfomaaa
