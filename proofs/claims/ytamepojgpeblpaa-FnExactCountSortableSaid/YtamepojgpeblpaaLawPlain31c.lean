/- The walks of exact laws, from the two functions' contracts (written by program). -/
import Derived.Test.YtamepojgpeblpaaMark2
import Derived.Test.YtamepojgpeblpaaSpec2G
namespace Go.Proofs.Ytamepojgpeblpaa
open Go.ChangeShapes Go.WideShapes Go.ChangeAt Go.RowKit
set_option linter.unusedVariables false

set_option maxRecDepth 100000 in
set_option maxHeartbeats 3200000 in
theorem lawCountSortable (n0 : Int) (n1 : Int) (R0 : Int) (w : World)
    (hS : ∀ w, Calls Try.prog 30 #[.int .i64 n0, .int .i64 n1] w fun e w' => e = .returned (.int .i64 R0) ∧ Below w.heap.size w w')
    (hI : ∀ w, Calls Try.prog 31 #[.int .i64 n0, .int .i64 n1] w fun e w' => e = .returned (.int .i64 R0) ∧ Below w.heap.size w w') :
    Calls Try.prog 9 #[.int .i64 n0, .int .i64 n1] w fun e w' => e = .returned (.bool true) ∧ Below w.heap.size w w' := by
  have HS := Lib.hid (hS)
  have HI := Lib.hid (hI)
  clear hS hI
  have hr0 : (R0 != R0) = false := by simp
  have hq0 : (R0 == R0) = true := by simp
  have Hw0 := Lib.hid (Below.refl w.heap.size w)
  go_enter Try.func9, Try.ntmps9
  go_wp2_with fail
  (with_reducible refine (HS.out _).mono ?_)
  rintro e w1 ⟨rfl, hb⟩
  have z1 := hb.size
  have Hw1 := Lib.hid (Hw0.out.trans (hb.mono Hw0.out.size))
  clear hb
  go_wp2_with fail
  (with_reducible refine (HI.out _).mono ?_)
  rintro e w2 ⟨rfl, hb⟩
  have z2 := hb.size
  have Hw2 := Lib.hid (Hw1.out.trans (hb.mono Hw1.out.size))
  clear hb
  go_wp2
  go_ret
  exact ⟨rfl, Hw2.out⟩

end Go.Proofs.Ytamepojgpeblpaa
