/- The laws' sameInts and sameWords at two lists that are the same. -/
import Derived.Test.YtjplehkahbkcoaaInts
import Derived.Test.YtjplehkahbkcoaaStrs
import Derived.BigQuiet
namespace Go.Proofs.Ytjplehkahbkcoaa
open Go.ChangeShapes Go.WideShapes Go.ChangeAt Go.RowKit
set_option linter.unusedVariables false

set_option maxRecDepth 100000 in
set_option maxHeartbeats 1600000 in
theorem sameI (v u : Value) (lo hi lo' hi' : Nat) (xs : List Int) (w : World) (hv : OwnI w lo hi v xs) (hu : OwnI w lo' hi' u xs) (hl : xs.length ≤ 1099511627776) :
    Calls Try.prog 19 #[v, u] w fun e w' => e = .returned (.bool true) ∧ Below w.heap.size w w' := by
  obtain ⟨A1, c1, rfl, k1⟩ := id hv
  obtain ⟨A2, c2, rfl, k2⟩ := id hu
  clear k1 k2
  have HV := Lib.hid hv
  have HU := Lib.hid hu
  clear hv hu
  go_enter Try.func19, Try.ntmps19
  go_wp2
  go_loopw [5] (fun x wr => ∃ (j k : Nat), j ≤ xs.length ∧ x = .int .i64 j ∧ wr = w.drewN k) (fun x _ => xs.length - (intOf x).toNat)
  case atStart => exact ⟨0, 0, Nat.zero_le _, rfl, rfl⟩
  case round =>
    obtain ⟨j, k, hj, rfl, rfl⟩ := hrel
    by_cases hlt : j < xs.length
    · obtain ⟨g1, p1, e1, -, -, hc1, -⟩ := HV.out.cell hlt
      obtain ⟨g2, p2, e2, -, -, hc2, -⟩ := HU.out.cell hlt
      simp only [Value.slice.injEq] at e1 e2
      obtain ⟨rfl, -, -⟩ := e1
      obtain ⟨rfl, -, -⟩ := e2
      have hji : (j : Int) < (xs.length : Int) := by omega
      generalize xs.getD j 0 = z at hc1 hc2
      go_wp2
      go_quiet (fail)
      go_wp2
      exact ⟨⟨j + 1, k + nq, by omega, by simp, rfl⟩, by simp [intOf]; omega⟩
    · go_wp2
      go_ret
      exact ⟨rfl, below_drewN (Below.refl _ _) k⟩

end Go.Proofs.Ytjplehkahbkcoaa
