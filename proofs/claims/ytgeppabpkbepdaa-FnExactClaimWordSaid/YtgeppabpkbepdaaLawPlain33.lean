/- The walks of exact laws, from the two functions' contracts (written by program). -/
import Derived.Test.YtgeppabpkbepdaaMark2
import Derived.Test.YtgeppabpkbepdaaSpec2G
namespace Go.Proofs.Ytgeppabpkbepdaa
open Go.ChangeShapes Go.WideShapes Go.ChangeAt Go.RowKit
set_option linter.unusedVariables false

set_option maxRecDepth 100000 in
set_option maxHeartbeats 3200000 in
theorem lawClaimWord (n0 : Int) (R0 : ByteArray) (w : World)
    (hS : ∀ w, Calls Try.prog 6 #[.int .i64 n0] w fun e w' => e = .returned (.string R0) ∧ Below w.heap.size w w')
    (hI : ∀ w, Calls Try.prog 7 #[.int .i64 n0] w fun e w' => e = .returned (.string R0) ∧ Below w.heap.size w w') :
    Calls Try.prog 3 #[.int .i64 n0] w fun e w' => e = .returned (.bool true) ∧ Below w.heap.size w w' := by
  have HS := Lib.hid (hS)
  have HI := Lib.hid (hI)
  clear hS hI
  have hr0 : (R0.toList != R0.toList) = false := by simp
  have hq0 : (R0.toList == R0.toList) = true := by simp
  have Hw0 := Lib.hid (Below.refl w.heap.size w)
  go_enter Try.func3, Try.ntmps3
  go_wp2_with fail
  (with_reducible refine (HS.out _).mono ?_)
  rintro e w1 ⟨rfl, hb⟩
  have z1 := hb.size
  have Hw1 := Lib.hid (Hw0.out.trans (hb.mono Hw0.out.size))
  clear hb
  go_wp2_with fail
  (with_reducible refine (HI.out _).mono ?_)
  rintro e w2 ⟨rfl, hb⟩
  have z2 := hb.size
  have Hw2 := Lib.hid (Hw1.out.trans (hb.mono Hw1.out.size))
  clear hb
  go_wp2
  go_ret
  exact ⟨rfl, Hw2.out⟩

end Go.Proofs.Ytgeppabpkbepdaa
