/- The walks of exact laws, from the two functions' contracts (written by program). -/
import Derived.Test.YtenmhonaijkajaaMark2
import Derived.Test.YtenmhonaijkajaaSpec2G
namespace Go.Proofs.Ytenmhonaijkajaa
open Go.ChangeShapes Go.WideShapes Go.ChangeAt Go.RowKit
set_option linter.unusedVariables false

set_option maxRecDepth 100000 in
set_option maxHeartbeats 3200000 in
theorem lawMajorOf (s0 : ByteArray) (R0 : Int) (w : World) (ms0 : s0.size ≤ 9223372036854775807)
    (hS : s0.size ≤ 1048576 → ∀ w, Calls Try.prog 32 #[.string s0] w fun e w' => e = .returned (.int .i64 R0) ∧ Below w.heap.size w w')
    (hI : s0.size ≤ 1048576 → ∀ w, Calls Try.prog 31 #[.string s0] w fun e w' => e = .returned (.int .i64 R0) ∧ Below w.heap.size w w') :
    Calls Try.prog 10 #[.string s0] w fun e w' => e = .returned (.bool true) ∧ Below w.heap.size w w' := by
  by_cases hbig0 : 1048576 < s0.size
  · have hbi0 : (1048576 : Int) < (s0.size : Int) := by omega
    clear hS hI
    go_enter Try.func10, Try.ntmps10
    go_wp2
    go_ret
    exact ⟨rfl, Below.refl _ _⟩
  have hsm0 : s0.size ≤ 1048576 := by omega
  have HS := Lib.hid (hS hsm0)
  have HI := Lib.hid (hI hsm0)
  clear hS hI
  have hr0 : (R0 != R0) = false := by simp
  have hq0 : (R0 == R0) = true := by simp
  have Hw0 := Lib.hid (Below.refl w.heap.size w)
  go_enter Try.func10, Try.ntmps10
  go_wp2_with fail
  (with_reducible refine (HS.out _).mono ?_)
  rintro e w1 ⟨rfl, hb⟩
  have z1 := hb.size
  have Hw1 := Lib.hid (Hw0.out.trans (hb.mono Hw0.out.size))
  clear hb
  go_wp2_with fail
  (with_reducible refine (HI.out _).mono ?_)
  rintro e w2 ⟨rfl, hb⟩
  have z2 := hb.size
  have Hw2 := Lib.hid (Hw1.out.trans (hb.mono Hw1.out.size))
  clear hb
  go_wp2
  go_ret
  exact ⟨rfl, Hw2.out⟩

end Go.Proofs.Ytenmhonaijkajaa
