/- The walks of exact laws, from the two functions' contracts (written by program). -/
import Derived.Test.YtpelicepgeoopaaMark2
import Derived.Test.YtpelicepgeoopaaSpec2G
namespace Go.Proofs.Ytpelicepgeoopaa
open Go.ChangeShapes Go.WideShapes Go.ChangeAt Go.RowKit
set_option linter.unusedVariables false

set_option maxRecDepth 100000 in
set_option maxHeartbeats 3200000 in
theorem lawValueAtRoot (n1 : Int) (v0 : Value) (xs0 : List Int) (R0 : Int) (R1 : Bool) (w : World) (hv0 : ArgI w v0 xs0) (mp0 : xs0.length ≤ 9223372036854775807)
    (hS : xs0.length ≤ 1048576 → ∀ u0 lo0 hi0, ∀ w, OwnI w lo0 hi0 (.slice u0 xs0.length xs0.length) xs0 → hi0 ≤ w.heap.size → Calls Try.prog 19 #[(.slice u0 xs0.length xs0.length), .int .i64 n1] w fun e w' => e = .returned (.tuple #[.int .i64 R0, .bool R1]) ∧ Below w.heap.size w w')
    (hI : xs0.length ≤ 1048576 → ∀ u0 lo0 hi0, ∀ w, OwnI w lo0 hi0 (.slice u0 xs0.length xs0.length) xs0 → hi0 ≤ w.heap.size → Calls Try.prog 21 #[(.slice u0 xs0.length xs0.length), .int .i64 n1] w fun e w' => e = .returned (.tuple #[.int .i64 R0, .bool R1]) ∧ Below w.heap.size w w') :
    Calls Try.prog 7 #[v0, .int .i64 n1] w fun e w' => e = .returned (.bool true) ∧ Below w.heap.size w w' := by
  obtain ⟨Aa0, ca0, rfl, -⟩ := id hv0
  by_cases hbig0 : 1048576 < xs0.length
  · have hbi0 : (1048576 : Int) < (xs0.length : Int) := by omega
    clear hS hI hv0
    go_enter Try.func7, Try.ntmps7
    go_wp2
    go_ret
    exact ⟨rfl, Below.refl _ _⟩
  have hsm0 : xs0.length ≤ 1048576 := by omega
  have HS := Lib.hid (hS hsm0)
  have HI := Lib.hid (hI hsm0)
  have HV0 := Lib.hid hv0
  clear hS hI hv0
  have hr0 : (R0 != R0) = false := by simp
  have hq0 : (R0 == R0) = true := by simp
  have hr1 : (R1 != R1) = false := by simp
  have hq1 : (R1 == R1) = true := by simp
  have Hw0 := Lib.hid (Below.refl w.heap.size w)
  go_enter Try.func7, Try.ntmps7
  go_wp2_with fail
  (with_reducible refine (toIntC _ xs0 _ (HV0.out.keep Hw0.out) hsm0).mono ?_)
  rintro e w1 ⟨A1, rfl, ho, hb⟩
  have z1 := hb.size
  have T0 := Lib.hid ho
  have Hw1 := Lib.hid (Hw0.out.trans (hb.mono Hw0.out.size))
  clear hb ho
  go_wp2_with fail
  (with_reducible refine (HS.out _ _ _ _ T0.out (by omega)).mono ?_)
  rintro e w2 ⟨rfl, hb⟩
  have z2 := hb.size
  have T0_2 := Lib.hid (T0.out.keep hb (by omega))
  have Hw2 := Lib.hid (Hw1.out.trans (hb.mono Hw1.out.size))
  clear hb
  go_wp2_with fail
  (with_reducible refine (toIntC _ xs0 _ (HV0.out.keep Hw2.out) hsm0).mono ?_)
  rintro e w3 ⟨A3, rfl, ho, hb⟩
  have z3 := hb.size
  have X0 := Lib.hid ho
  have Hw3 := Lib.hid (Hw2.out.trans (hb.mono Hw2.out.size))
  clear hb ho
  go_wp2_with fail
  (with_reducible refine (HI.out _ _ _ _ X0.out (by omega)).mono ?_)
  rintro e w4 ⟨rfl, hb⟩
  have z4 := hb.size
  have X0_4 := Lib.hid (X0.out.keep hb (by omega))
  have Hw4 := Lib.hid (Hw3.out.trans (hb.mono Hw3.out.size))
  clear hb
  go_wp2_with fail
  (with_reducible refine (toIntC _ xs0 _ (HV0.out.keep Hw4.out) hsm0).mono ?_)
  rintro e w5 ⟨A5, rfl, ho, hb⟩
  have z5 := hb.size
  have T0 := Lib.hid ho
  have X0_5 := Lib.hid (X0_4.out.keep hb (by omega))
  have Hw5 := Lib.hid (Hw4.out.trans (hb.mono Hw4.out.size))
  clear hb ho
  go_wp2_with fail
  (with_reducible refine (eqI_same _ _ _ _ _ _ xs0 _ X0_5.out T0.out (by omega)).mono ?_)
  rintro e w6 ⟨rfl, hb⟩
  have z6 := hb.size
  have X0_6 := Lib.hid (X0_5.out.keep hb (by omega))
  have T0_6 := Lib.hid (T0.out.keep hb (by omega))
  have Hw6 := Lib.hid (Hw5.out.trans (hb.mono Hw5.out.size))
  clear hb
  go_wp2
  go_ret
  exact ⟨rfl, Hw6.out⟩

end Go.Proofs.Ytpelicepgeoopaa
