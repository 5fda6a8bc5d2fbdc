/- The heights of a path are none below 0 and none above 8. -/
import Derived.Test.YtkpnfonedfomaaaImpl2C
import Derived.Test.YtkpnfonedfomaaaSpec2E
namespace Go.Proofs.Ytkpnfonedfomaaa
open Go.ChangeShapes Go.WideShapes Go.ChangeAt Go.RowKit
set_option linter.unusedVariables false

theorem df_low : ∀ (l : List UInt8) (h : Nat), dyckFrom h l = true → h ≤ l.length := by
  intro l
  induction l with
  | nil => intro h hd; rw [df_nil] at hd; simp at hd; omega
  | cons c l ih =>
    intro h hd
    rw [List.length_cons]
    rcases df_letter hd with ⟨-, h1⟩ | ⟨-, h0, h1⟩
    · have := ih _ h1; omega
    · have := ih _ h1; omega
theorem hAt_path {s : ByteArray} (hd : dyck s = true) : ∀ j, j ≤ s.size → ∃ h : Nat, hAt s j = (h : Int) ∧ h ≤ j ∧ dyckFrom h (rest s j) = true := by
  intro j
  induction j with
  | zero =>
    intro _
    rw [dyck_short (dyck_size hd)] at hd
    exact ⟨0, hAt_zero s, Nat.le_refl _, hd⟩
  | succ j ih =>
    intro hj
    obtain ⟨h, h1, h2, h3⟩ := ih (by omega)
    rw [rest_cons s j hj] at h3
    rcases df_letter h3 with ⟨e, h4⟩ | ⟨e, h0, h4⟩
    · exact ⟨h + 1, by rw [hAt_up s j hj e, h1]; omega, by omega, h4⟩
    · exact ⟨h - 1, by rw [hAt_down s j hj (by omega), h1]; omega, by omega, h4⟩
theorem hAt_fit {s : ByteArray} (hd : dyck s = true) (j : Nat) (hj : j ≤ s.size) : 0 ≤ hAt s j ∧ hAt s j ≤ 8 := by
  obtain ⟨h, h1, h2, h3⟩ := hAt_path hd j hj
  have h4 := df_low _ _ h3
  have h5 := dyck_size hd
  have h6 : (rest s j).length = s.size - j := by unfold rest; simp
  rw [h1]; omega


end Go.Proofs.Ytkpnfonedfomaaa
