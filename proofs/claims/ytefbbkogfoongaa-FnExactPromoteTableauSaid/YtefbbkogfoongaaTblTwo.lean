/- Tables of two rows. -/
import Derived.Test.YtefbbkogfoongaaTblKZ
namespace Go.Proofs.Ytefbbkogfoongaa
open Go.ChangeShapes Go.WideShapes Go.ChangeAt Go.RowKit
set_option linter.unusedVariables false

/-- A table of two rows that lie apart. -/
theorem Tb.two {w : World} {base : Nat} {v1 v2 : Value} {l1 l2 : List Int} (h1 : w.ownsRow base 3 1 v1 l1.length (l1.map (Value.int .i64))) (h2 : w.ownsRow base 3 1 v2 l2.length (l2.map (Value.int .i64))) (hne : v1.ownBlock = none ∨ v1.ownBlock ≠ v2.ownBlock) (hb : base ≤ w.heap.size) :
    Tb (w.alloc (.cells #[v1, v2] 31)) base (.slice (some ⟨w.heap.size, 0, none⟩) 2 2) [v1, v2] [l1, l2] := by
  refine ⟨rfl, ⟨rfl, .inr ⟨w.heap.size, 2, #[v1, v2], rfl, hb, by rw [show ∀ o, (w.alloc o).heap = w.heap.push o from fun o => rfl]; simp, Nat.le_refl 2, by unfold maxLen; omega, rfl, rfl⟩⟩, fun j hj => ?_, fun j k hj hk hjk => ?_⟩
  · match j, hj with
    | 0, _ => exact h1.alloc _
    | 1, _ => exact h2.alloc _
  · have hj2 : j < 2 := hj
    have hk2 : k < 2 := hk
    rcases Nat.lt_or_ge j 1 with h | h
    · obtain rfl : j = 0 := by omega
      obtain rfl : k = 1 := by omega
      exact hne
    · obtain rfl : j = 1 := by omega
      obtain rfl : k = 0 := by omega
      exact sw hne

end Go.Proofs.Ytefbbkogfoongaa
