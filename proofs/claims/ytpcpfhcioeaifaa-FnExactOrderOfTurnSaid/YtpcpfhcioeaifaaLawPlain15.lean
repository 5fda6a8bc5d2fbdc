/- The walks of exact laws, from the two functions' contracts (written by program). -/
import Derived.Test.YtpcpfhcioeaifaaMark2
import Derived.Test.YtpcpfhcioeaifaaSpec2G
namespace Go.Proofs.Ytpcpfhcioeaifaa
open Go.ChangeShapes Go.WideShapes Go.ChangeAt Go.RowKit
set_option linter.unusedVariables false

set_option maxRecDepth 100000 in
set_option maxHeartbeats 3200000 in
theorem lawOrderOfTurn (s0 : ByteArray) (n1 : Int) (R0 : Int) (w : World) (ms0 : s0.size ≤ 9223372036854775807)
    (hS : s0.size ≤ 1048576 → ∀ w, Calls Try.prog 15 #[.string s0, .int .i64 n1] w fun e w' => e = .returned (.int .i64 R0) ∧ Below w.heap.size w w')
    (hI : s0.size ≤ 1048576 → ∀ w, Calls Try.prog 16 #[.string s0, .int .i64 n1] w fun e w' => e = .returned (.int .i64 R0) ∧ Below w.heap.size w w') :
    Calls Try.prog 5 #[.string s0, .int .i64 n1] w fun e w' => e = .returned (.bool true) ∧ Below w.heap.size w w' := by
  by_cases hbig0 : 1048576 < s0.size
  · have hbi0 : (1048576 : Int) < (s0.size : Int) := by omega
    clear hS hI
    go_enter Try.func5, Try.ntmps5
    go_wp2
    go_ret
    exact ⟨rfl, Below.refl _ _⟩
  have hsm0 : s0.size ≤ 1048576 := by omega
  have HS := Lib.hid (hS hsm0)
  have HI := Lib.hid (hI hsm0)
  clear hS hI
  have hr0 : (R0 != R0) = false := by simp
  have hq0 : (R0 == R0) = true := by simp
  have Hw0 := Lib.hid (Below.refl w.heap.size w)
  go_enter Try.func5, Try.ntmps5
  go_wp2_with fail
  (with_reducible refine (HS.out _).mono ?_)
  rintro e w1 ⟨rfl, hb⟩
  have z1 := hb.size
  have Hw1 := Lib.hid (Hw0.out.trans (hb.mono Hw0.out.size))
  clear hb
  go_wp2_with fail
  (with_reducible refine (HI.out _).mono ?_)
  rintro e w2 ⟨rfl, hb⟩
  have z2 := hb.size
  have Hw2 := Lib.hid (Hw1.out.trans (hb.mono Hw1.out.size))
  clear hb
  go_wp2
  go_ret
  exact ⟨rfl, Hw2.out⟩

end Go.Proofs.Ytpcpfhcioeaifaa
