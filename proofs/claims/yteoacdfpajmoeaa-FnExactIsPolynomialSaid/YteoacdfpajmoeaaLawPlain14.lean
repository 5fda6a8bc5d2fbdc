/- The walks of exact laws, from the two functions' contracts (written by program). -/
import Derived.Test.YteoacdfpajmoeaaMark2
import Derived.Test.YteoacdfpajmoeaaSpec2G
namespace Go.Proofs.Yteoacdfpajmoeaa
open Go.ChangeShapes Go.WideShapes Go.ChangeAt Go.RowKit
set_option linter.unusedVariables false

set_option maxRecDepth 100000 in
set_option maxHeartbeats 3200000 in
theorem lawIsPolynomial (v0 : Value) (xs0 : List Int) (R0 : Bool) (w : World) (hv0 : ArgI w v0 xs0) (mp0 : xs0.length ≤ 9223372036854775807)
    (hS : xs0.length ≤ 1048576 → ∀ u0 lo0 hi0, ∀ w, OwnI w lo0 hi0 (.slice u0 xs0.length xs0.length) xs0 → hi0 ≤ w.heap.size → Calls Try.prog 12 #[(.slice u0 xs0.length xs0.length)] w fun e w' => e = .returned (.bool R0) ∧ Below w.heap.size w w')
    (hI : xs0.length ≤ 1048576 → ∀ u0 lo0 hi0, ∀ w, OwnI w lo0 hi0 (.slice u0 xs0.length xs0.length) xs0 → hi0 ≤ w.heap.size → Calls Try.prog 14 #[(.slice u0 xs0.length xs0.length)] w fun e w' => e = .returned (.bool R0) ∧ Below w.heap.size w w') :
    Calls Try.prog 3 #[v0] w fun e w' => e = .returned (.bool true) ∧ Below w.heap.size w w' := by
  obtain ⟨Aa0, ca0, rfl, -⟩ := id hv0
  by_cases hbig0 : 1048576 < xs0.length
  · have hbi0 : (1048576 : Int) < (xs0.length : Int) := by omega
    clear hS hI hv0
    go_enter Try.func3, Try.ntmps3
    go_wp2
    go_ret
    exact ⟨rfl, Below.refl _ _⟩
  have hsm0 : xs0.length ≤ 1048576 := by omega
  have HS := Lib.hid (hS hsm0)
  have HI := Lib.hid (hI hsm0)
  have HV0 := Lib.hid hv0
  clear hS hI hv0
  have hr0 : (R0 != R0) = false := by simp
  have hq0 : (R0 == R0) = true := by simp
  have Hw0 := Lib.hid (Below.refl w.heap.size w)
  go_enter Try.func3, Try.ntmps3
  go_wp2_with fail
  (with_reducible refine (toIntC _ xs0 _ (HV0.out.keep Hw0.out) hsm0).mono ?_)
  rintro e w1 ⟨A1, rfl, ho, hb⟩
  have z1 := hb.size
  have T0 := Lib.hid ho
  have Hw1 := Lib.hid (Hw0.out.trans (hb.mono Hw0.out.size))
  clear hb ho
  go_wp2_with fail
  (with_reducible refine (HS.out _ _ _ _ T0.out (by omega)).mono ?_)
  rintro e w2 ⟨rfl, hb⟩
  have z2 := hb.size
  have T0_2 := Lib.hid (T0.out.keep hb (by omega))
  have Hw2 := Lib.hid (Hw1.out.trans (hb.mono Hw1.out.size))
  clear hb
  go_wp2_with fail
  (with_reducible refine (toIntC _ xs0 _ (HV0.out.keep Hw2.out) hsm0).mono ?_)
  rintro e w3 ⟨A3, rfl, ho, hb⟩
  have z3 := hb.size
  have X0 := Lib.hid ho
  have Hw3 := Lib.hid (Hw2.out.trans (hb.mono Hw2.out.size))
  clear hb ho
  go_wp2_with fail
  (with_reducible refine (HI.out _ _ _ _ X0.out (by omega)).mono ?_)
  rintro e w4 ⟨rfl, hb⟩
  have z4 := hb.size
  have X0_4 := Lib.hid (X0.out.keep hb (by omega))
  have Hw4 := Lib.hid (Hw3.out.trans (hb.mono Hw3.out.size))
  clear hb
  go_wp2_with fail
  (with_reducible refine (toIntC _ xs0 _ (HV0.out.keep Hw4.out) hsm0).mono ?_)
  rintro e w5 ⟨A5, rfl, ho, hb⟩
  have z5 := hb.size
  have T0 := Lib.hid ho
  have X0_5 := Lib.hid (X0_4.out.keep hb (by omega))
  have Hw5 := Lib.hid (Hw4.out.trans (hb.mono Hw4.out.size))
  clear hb ho
  go_wp2_with fail
  (with_reducible refine (eqI_same _ _ _ _ _ _ xs0 _ X0_5.out T0.out (by omega)).mono ?_)
  rintro e w6 ⟨rfl, hb⟩
  have z6 := hb.size
  have X0_6 := Lib.hid (X0_5.out.keep hb (by omega))
  have T0_6 := Lib.hid (T0.out.keep hb (by omega))
  have Hw6 := Lib.hid (Hw5.out.trans (hb.mono Hw5.out.size))
  clear hb
  go_wp2
  go_ret
  exact ⟨rfl, Hw6.out⟩

set_option maxRecDepth 100000 in
set_option maxHeartbeats 3200000 in
theorem lawValueAt (n1 : Int) (v0 : Value) (xs0 : List Int) (R0 : Int) (R1 : Bool) (w : World) (hv0 : ArgI w v0 xs0) (mp0 : xs0.length ≤ 9223372036854775807)
    (hS : xs0.length ≤ 1048576 → ∀ u0 lo0 hi0, ∀ w, OwnI w lo0 hi0 (.slice u0 xs0.length xs0.length) xs0 → hi0 ≤ w.heap.size → Calls Try.prog 24 #[(.slice u0 xs0.length xs0.length), .int .i64 n1] w fun e w' => e = .returned (.tuple #[.int .i64 R0, .bool R1]) ∧ Below w.heap.size w w')
    (hI : xs0.length ≤ 1048576 → ∀ u0 lo0 hi0, ∀ w, OwnI w lo0 hi0 (.slice u0 xs0.length xs0.length) xs0 → hi0 ≤ w.heap.size → Calls Try.prog 25 #[(.slice u0 xs0.length xs0.length), .int .i64 n1] w fun e w' => e = .returned (.tuple #[.int .i64 R0, .bool R1]) ∧ Below w.heap.size w w') :
    Calls Try.prog 7 #[v0, .int .i64 n1] w fun e w' => e = .returned (.bool true) ∧ Below w.heap.size w w' := by
  obtain ⟨Aa0, ca0, rfl, -⟩ := id hv0
  by_cases hbig0 : 1048576 < xs0.length
  · have hbi0 : (1048576 : Int) < (xs0.length : Int) := by omega
    clear hS hI hv0
    go_enter Try.func7, Try.ntmps7
    go_wp2
    go_ret
    exact ⟨rfl, Below.refl _ _⟩
  have hsm0 : xs0.length ≤ 1048576 := by omega
  have HS := Lib.hid (hS hsm0)
  have HI := Lib.hid (hI hsm0)
  have HV0 := Lib.hid hv0
  clear hS hI hv0
  have hr0 : (R0 != R0) = false := by simp
  have hq0 : (R0 == R0) = true := by simp
  have hr1 : (R1 != R1) = false := by simp
  have hq1 : (R1 == R1) = true := by simp
  have Hw0 := Lib.hid (Below.refl w.heap.size w)
  go_enter Try.func7, Try.ntmps7
  go_wp2_with fail
  (with_reducible refine (toIntC _ xs0 _ (HV0.out.keep Hw0.out) hsm0).mono ?_)
  rintro e w1 ⟨A1, rfl, ho, hb⟩
  have z1 := hb.size
  have T0 := Lib.hid ho
  have Hw1 := Lib.hid (Hw0.out.trans (hb.mono Hw0.out.size))
  clear hb ho
  go_wp2_with fail
  (with_reducible refine (HS.out _ _ _ _ T0.out (by omega)).mono ?_)
  rintro e w2 ⟨rfl, hb⟩
  have z2 := hb.size
  have T0_2 := Lib.hid (T0.out.keep hb (by omega))
  have Hw2 := Lib.hid (Hw1.out.trans (hb.mono Hw1.out.size))
  clear hb
  go_wp2_with fail
  (with_reducible refine (toIntC _ xs0 _ (HV0.out.keep Hw2.out) hsm0).mono ?_)
  rintro e w3 ⟨A3, rfl, ho, hb⟩
  have z3 := hb.size
  have X0 := Lib.hid ho
  have Hw3 := Lib.hid (Hw2.out.trans (hb.mono Hw2.out.size))
  clear hb ho
  go_wp2_with fail
  (with_reducible refine (HI.out _ _ _ _ X0.out (by omega)).mono ?_)
  rintro e w4 ⟨rfl, hb⟩
  have z4 := hb.size
  have X0_4 := Lib.hid (X0.out.keep hb (by omega))
  have Hw4 := Lib.hid (Hw3.out.trans (hb.mono Hw3.out.size))
  clear hb
  go_wp2_with fail
  (with_reducible refine (toIntC _ xs0 _ (HV0.out.keep Hw4.out) hsm0).mono ?_)
  rintro e w5 ⟨A5, rfl, ho, hb⟩
  have z5 := hb.size
  have T0 := Lib.hid ho
  have X0_5 := Lib.hid (X0_4.out.keep hb (by omega))
  have Hw5 := Lib.hid (Hw4.out.trans (hb.mono Hw4.out.size))
  clear hb ho
  go_wp2_with fail
  (with_reducible refine (eqI_same _ _ _ _ _ _ xs0 _ X0_5.out T0.out (by omega)).mono ?_)
  rintro e w6 ⟨rfl, hb⟩
  have z6 := hb.size
  have X0_6 := Lib.hid (X0_5.out.keep hb (by omega))
  have T0_6 := Lib.hid (T0.out.keep hb (by omega))
  have Hw6 := Lib.hid (Hw5.out.trans (hb.mono Hw5.out.size))
  clear hb
  go_wp2
  go_ret
  exact ⟨rfl, Hw6.out⟩

set_option maxRecDepth 100000 in
set_option maxHeartbeats 3200000 in
theorem lawNumberPolynomial (n0 : Int) (ys : List Int) (R1 : Bool) (w : World) (hys : ys.length ≤ 1048576)
    (hS : ∀ w, Calls Try.prog 26 #[.int .i64 n0] w fun e w' => ∃ v, e = .returned (.tuple #[v, .bool R1]) ∧ OwnI w' w.heap.size w'.heap.size v ys ∧ Below w.heap.size w w')
    (hI : ∀ w, Calls Try.prog 27 #[.int .i64 n0] w fun e w' => ∃ v, e = .returned (.tuple #[v, .bool R1]) ∧ OwnI w' w.heap.size w'.heap.size v ys ∧ Below w.heap.size w w') :
    Calls Try.prog 8 #[.int .i64 n0] w fun e w' => e = .returned (.bool true) ∧ Below w.heap.size w w' := by
  have HS := Lib.hid (hS)
  have HI := Lib.hid (hI)
  clear hS hI
  have hr1 : (R1 != R1) = false := by simp
  have hq1 : (R1 == R1) = true := by simp
  have Hw0 := Lib.hid (Below.refl w.heap.size w)
  go_enter Try.func8, Try.ntmps8
  go_wp2_with fail
  (with_reducible refine (HS.out _).mono ?_)
  rintro e w1 ⟨v1, rfl, ho, hb⟩
  have z1 := hb.size
  obtain ⟨A1, c1, rfl, -⟩ := id ho
  have W0 := Lib.hid ho
  have Hw1 := Lib.hid (Hw0.out.trans (hb.mono Hw0.out.size))
  clear hb ho
  go_wp2_with fail
  (with_reducible refine (HI.out _).mono ?_)
  rintro e w2 ⟨v2, rfl, ho, hb⟩
  have z2 := hb.size
  obtain ⟨A2, c2, rfl, -⟩ := id ho
  have G0 := Lib.hid ho
  have W0_2 := Lib.hid (W0.out.keep hb (by omega))
  have Hw2 := Lib.hid (Hw1.out.trans (hb.mono Hw1.out.size))
  clear hb ho
  go_wp2_with fail
  (with_reducible refine (eqI_same _ _ _ _ _ _ ys _ G0.out W0_2.out (by omega)).mono ?_)
  rintro e w3 ⟨rfl, hb⟩
  have z3 := hb.size
  have W0_3 := Lib.hid (W0_2.out.keep hb (by omega))
  have G0_3 := Lib.hid (G0.out.keep hb (by omega))
  have Hw3 := Lib.hid (Hw2.out.trans (hb.mono Hw2.out.size))
  clear hb
  go_wp2_with fail
  (with_reducible refine (markO _ _ _ ys 1 _ G0_3.out (by omega) (by omega) (by omega)).mono ?_)
  rintro e w4 ⟨rfl, ho, hb⟩
  have z4 := hb.size
  have G0_m := Lib.hid ho
  have W0_4 := Lib.hid (W0_3.out.apart hb (by omega))
  have Hw4 := Lib.hid (Hw3.out.trans (hb.below (by omega)))
  clear hb ho
  have e1 : (1 : Int) + (ys.length : Int) = (1 : Int) + (ys.length : Int) := rfl
  go_wp2_with fail
  (with_reducible refine (heldI _ _ _ ys.length 1 _ G0_m.out (by omega) (by omega) (by omega)).mono ?_)
  rintro e w' ⟨rfl, hweq⟩
  subst hweq
  go_wp2_with fail
  (with_reducible refine (HI.out _).mono ?_)
  rintro e w6 ⟨v6, rfl, ho, hb⟩
  have z6 := hb.size
  obtain ⟨A6, c6, rfl, -⟩ := id ho
  have H0 := Lib.hid ho
  have W0_6 := Lib.hid (W0_4.out.keep hb (by omega))
  have G0_6 := Lib.hid (G0_m.out.keep hb (by omega))
  have Hw6 := Lib.hid (Hw4.out.trans (hb.mono Hw4.out.size))
  clear hb ho
  go_wp2_with fail
  (with_reducible refine (eqI_same _ _ _ _ _ _ ys _ H0.out W0_6.out (by omega)).mono ?_)
  rintro e w7 ⟨rfl, hb⟩
  have z7 := hb.size
  have W0_7 := Lib.hid (W0_6.out.keep hb (by omega))
  have G0_7 := Lib.hid (G0_6.out.keep hb (by omega))
  have H0_7 := Lib.hid (H0.out.keep hb (by omega))
  have Hw7 := Lib.hid (Hw6.out.trans (hb.mono Hw6.out.size))
  clear hb
  go_wp2_with fail
  (with_reducible refine (heldI _ _ _ ys.length 1 _ G0_7.out (by omega) (by omega) (by omega)).mono ?_)
  rintro e w' ⟨rfl, hweq⟩
  subst hweq
  go_wp2
  go_ret
  exact ⟨rfl, Hw7.out⟩

end Go.Proofs.Yteoacdfpajmoeaa
