/- The walk of the law of PeaksOf, from the two functions' contracts. -/
import Derived.Test.YtckpojjjodgonaaImpl2P
import Derived.Test.YtckpojjjodgonaaSpec2D
namespace Go.Proofs.Ytckpojjjodgonaa
open Go.ChangeShapes Go.WideShapes Go.ChangeAt Go.RowKit
set_option linter.unusedVariables false

set_option maxRecDepth 100000 in
set_option maxHeartbeats 1600000 in
theorem lawPeaksOfM (s : ByteArray) (z : Int) (w : World) (hM : MaxInt w) (ms : s.size ≤ 9223372036854775807)
    (hS : s.size ≤ 1048576 → ∀ w, Calls Try.prog 40 #[.string s] w fun e w' => e = .returned (.int .i64 z) ∧ Below w.heap.size w w')
    (hI : s.size ≤ 1048576 → ∀ w, MaxInt w → Calls Try.prog 35 #[.string s] w fun e w' => e = .returned (.int .i64 z) ∧ Below w.heap.size w w') :
    Calls Try.prog 8 #[.string s] w fun e w' => e = .returned (.bool true) ∧ Below w.heap.size w w' := by
  by_cases hs : 1048576 < s.size
  · have bs : (1048576 : Int) < (s.size : Int) := by omega
    clear hS hI hM
    go_enter Try.func8, Try.ntmps8
    go_wp2
    go_ret
    exact ⟨rfl, Below.refl _ _⟩
  have HM := Lib.hid hM
  clear hM
  have HS := Lib.hid (hS (by omega))
  have HI := Lib.hid (hI (by omega))
  clear hS hI
  go_enter Try.func8, Try.ntmps8
  go_wp2_with fail
  refine (HS.out _).mono ?_
  rintro e w1 ⟨rfl, hb1⟩
  go_wp2_with fail
  refine (HI.out _ (HM.out.keep hb1)).mono ?_
  rintro e w2 ⟨rfl, hb2⟩
  go_wp2
  go_ret
  exact ⟨rfl, hb1.trans (hb2.mono hb1.size)⟩

end Go.Proofs.Ytckpojjjodgonaa
