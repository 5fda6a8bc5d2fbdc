/- The walks of exact laws, from the two functions' contracts (written by program). -/
import Derived.Test.YtbikipacfmaiaaaMark2
import Derived.Test.YtbikipacfmaiaaaSpec2G
namespace Go.Proofs.Ytbikipacfmaiaaa
open Go.ChangeShapes Go.WideShapes Go.ChangeAt Go.RowKit
set_option linter.unusedVariables false

set_option maxRecDepth 100000 in
set_option maxHeartbeats 3200000 in
theorem lawReversionOf (v0 : Value) (xs0 : List Int) (ys : List Int) (R1 : Bool) (w : World) (hv0 : ArgI w v0 xs0) (mp0 : xs0.length ≤ 9223372036854775807) (hys : ys.length ≤ 1048576)
    (hS : xs0.length ≤ 1048576 → ∀ u0 lo0 hi0, ∀ w, OwnI w lo0 hi0 (.slice u0 xs0.length xs0.length) xs0 → hi0 ≤ w.heap.size → Calls Try.prog 20 #[(.slice u0 xs0.length xs0.length)] w fun e w' => ∃ v, e = .returned (.tuple #[v, .bool R1]) ∧ OwnI w' w.heap.size w'.heap.size v ys ∧ Below w.heap.size w w')
    (hI : xs0.length ≤ 1048576 → ∀ u0 lo0 hi0, ∀ w, OwnI w lo0 hi0 (.slice u0 xs0.length xs0.length) xs0 → hi0 ≤ w.heap.size → Calls Try.prog 21 #[(.slice u0 xs0.length xs0.length)] w fun e w' => ∃ v, e = .returned (.tuple #[v, .bool R1]) ∧ OwnI w' w.heap.size w'.heap.size v ys ∧ Below w.heap.size w w') :
    Calls Try.prog 6 #[v0] w fun e w' => e = .returned (.bool true) ∧ Below w.heap.size w w' := by
  obtain ⟨Aa0, ca0, rfl, -⟩ := id hv0
  by_cases hbig0 : 1048576 < xs0.length
  · have hbi0 : (1048576 : Int) < (xs0.length : Int) := by omega
    clear hS hI hv0
    go_enter Try.func6, Try.ntmps6
    go_wp2
    go_ret
    exact ⟨rfl, Below.refl _ _⟩
  have hsm0 : xs0.length ≤ 1048576 := by omega
  have HS := Lib.hid (hS hsm0)
  have HI := Lib.hid (hI hsm0)
  have HV0 := Lib.hid hv0
  clear hS hI hv0
  have hr1 : (R1 != R1) = false := by simp
  have hq1 : (R1 == R1) = true := by simp
  have Hw0 := Lib.hid (Below.refl w.heap.size w)
  go_enter Try.func6, Try.ntmps6
  go_wp2_with fail
  (with_reducible refine (toIntC _ xs0 _ (HV0.out.keep Hw0.out) hsm0).mono ?_)
  rintro e w1 ⟨A1, rfl, ho, hb⟩
  have z1 := hb.size
  have T0 := Lib.hid ho
  have Hw1 := Lib.hid (Hw0.out.trans (hb.mono Hw0.out.size))
  clear hb ho
  go_wp2_with fail
  (with_reducible refine (HS.out _ _ _ _ T0.out (by omega)).mono ?_)
  rintro e w2 ⟨v2, rfl, ho, hb⟩
  have z2 := hb.size
  obtain ⟨A2, c2, rfl, -⟩ := id ho
  have W0 := Lib.hid ho
  have T0_2 := Lib.hid (T0.out.keep hb (by omega))
  have Hw2 := Lib.hid (Hw1.out.trans (hb.mono Hw1.out.size))
  clear hb ho
  go_wp2_with fail
  (with_reducible refine (toIntC _ xs0 _ (HV0.out.keep Hw2.out) hsm0).mono ?_)
  rintro e w3 ⟨A3, rfl, ho, hb⟩
  have z3 := hb.size
  have X0 := Lib.hid ho
  have W0_3 := Lib.hid (W0.out.keep hb (by omega))
  have Hw3 := Lib.hid (Hw2.out.trans (hb.mono Hw2.out.size))
  clear hb ho
  go_wp2_with fail
  (with_reducible refine (HI.out _ _ _ _ X0.out (by omega)).mono ?_)
  rintro e w4 ⟨v4, rfl, ho, hb⟩
  have z4 := hb.size
  obtain ⟨A4, c4, rfl, -⟩ := id ho
  have G0 := Lib.hid ho
  have W0_4 := Lib.hid (W0_3.out.keep hb (by omega))
  have X0_4 := Lib.hid (X0.out.keep hb (by omega))
  have Hw4 := Lib.hid (Hw3.out.trans (hb.mono Hw3.out.size))
  clear hb ho
  go_wp2_with fail
  (with_reducible refine (eqI_same _ _ _ _ _ _ ys _ G0.out W0_4.out (by omega)).mono ?_)
  rintro e w5 ⟨rfl, hb⟩
  have z5 := hb.size
  have W0_5 := Lib.hid (W0_4.out.keep hb (by omega))
  have X0_5 := Lib.hid (X0_4.out.keep hb (by omega))
  have G0_5 := Lib.hid (G0.out.keep hb (by omega))
  have Hw5 := Lib.hid (Hw4.out.trans (hb.mono Hw4.out.size))
  clear hb
  go_wp2_with fail
  (with_reducible refine (toIntC _ xs0 _ (HV0.out.keep Hw5.out) hsm0).mono ?_)
  rintro e w6 ⟨A6, rfl, ho, hb⟩
  have z6 := hb.size
  have T0 := Lib.hid ho
  have W0_6 := Lib.hid (W0_5.out.keep hb (by omega))
  have X0_6 := Lib.hid (X0_5.out.keep hb (by omega))
  have G0_6 := Lib.hid (G0_5.out.keep hb (by omega))
  have Hw6 := Lib.hid (Hw5.out.trans (hb.mono Hw5.out.size))
  clear hb ho
  go_wp2_with fail
  (with_reducible refine (eqI_same _ _ _ _ _ _ xs0 _ X0_6.out T0.out (by omega)).mono ?_)
  rintro e w7 ⟨rfl, hb⟩
  have z7 := hb.size
  have W0_7 := Lib.hid (W0_6.out.keep hb (by omega))
  have X0_7 := Lib.hid (X0_6.out.keep hb (by omega))
  have G0_7 := Lib.hid (G0_6.out.keep hb (by omega))
  have T0_7 := Lib.hid (T0.out.keep hb (by omega))
  have Hw7 := Lib.hid (Hw6.out.trans (hb.mono Hw6.out.size))
  clear hb
  go_wp2_with fail
  (with_reducible refine (markO _ _ _ xs0 1 _ X0_7.out (by omega) (by omega) (by omega)).mono ?_)
  rintro e w8 ⟨rfl, ho, hb⟩
  have z8 := hb.size
  have X0_m := Lib.hid ho
  have W0_8 := Lib.hid (W0_7.out.apart hb (by omega))
  have G0_8 := Lib.hid (G0_7.out.apart hb (by omega))
  have Hw8 := Lib.hid (Hw7.out.trans (hb.below (by omega)))
  clear hb ho
  go_wp2_with fail
  (with_reducible refine (eqI_same _ _ _ _ _ _ ys _ G0_8.out W0_8.out (by omega)).mono ?_)
  rintro e w9 ⟨rfl, hb⟩
  have z9 := hb.size
  have W0_9 := Lib.hid (W0_8.out.keep hb (by omega))
  have G0_9 := Lib.hid (G0_8.out.keep hb (by omega))
  have Hw9 := Lib.hid (Hw8.out.trans (hb.mono Hw8.out.size))
  clear hb
  go_wp2_with fail
  (with_reducible refine (markO _ _ _ ys 1 _ G0_9.out (by omega) (by omega) (by omega)).mono ?_)
  rintro e w10 ⟨rfl, ho, hb⟩
  have z10 := hb.size
  have G0_m := Lib.hid ho
  have W0_10 := Lib.hid (W0_9.out.apart hb (by omega))
  have Hw10 := Lib.hid (Hw9.out.trans (hb.below (by omega)))
  clear hb ho
  have e1 : (1 : Int) + (ys.length : Int) = (1 : Int) + (ys.length : Int) := rfl
  go_wp2_with fail
  (with_reducible refine (heldI _ _ _ ys.length 1 _ G0_m.out (by omega) (by omega) (by omega)).mono ?_)
  rintro e w' ⟨rfl, hweq⟩
  subst hweq
  go_wp2_with fail
  (with_reducible refine (toIntC _ xs0 _ (HV0.out.keep Hw10.out) hsm0).mono ?_)
  rintro e w12 ⟨A12, rfl, ho, hb⟩
  have z12 := hb.size
  have T0 := Lib.hid ho
  have W0_12 := Lib.hid (W0_10.out.keep hb (by omega))
  have G0_12 := Lib.hid (G0_m.out.keep hb (by omega))
  have Hw12 := Lib.hid (Hw10.out.trans (hb.mono Hw10.out.size))
  clear hb ho
  go_wp2_with fail
  (with_reducible refine (HI.out _ _ _ _ T0.out (by omega)).mono ?_)
  rintro e w13 ⟨v13, rfl, ho, hb⟩
  have z13 := hb.size
  obtain ⟨A13, c13, rfl, -⟩ := id ho
  have H0 := Lib.hid ho
  have W0_13 := Lib.hid (W0_12.out.keep hb (by omega))
  have G0_13 := Lib.hid (G0_12.out.keep hb (by omega))
  have T0_13 := Lib.hid (T0.out.keep hb (by omega))
  have Hw13 := Lib.hid (Hw12.out.trans (hb.mono Hw12.out.size))
  clear hb ho
  go_wp2_with fail
  (with_reducible refine (eqI_same _ _ _ _ _ _ ys _ H0.out W0_13.out (by omega)).mono ?_)
  rintro e w14 ⟨rfl, hb⟩
  have z14 := hb.size
  have W0_14 := Lib.hid (W0_13.out.keep hb (by omega))
  have G0_14 := Lib.hid (G0_13.out.keep hb (by omega))
  have H0_14 := Lib.hid (H0.out.keep hb (by omega))
  have Hw14 := Lib.hid (Hw13.out.trans (hb.mono Hw13.out.size))
  clear hb
  go_wp2_with fail
  (with_reducible refine (heldI _ _ _ ys.length 1 _ G0_14.out (by omega) (by omega) (by omega)).mono ?_)
  rintro e w' ⟨rfl, hweq⟩
  subst hweq
  go_wp2
  go_ret
  exact ⟨rfl, Hw14.out⟩

end Go.Proofs.Ytbikipacfmaiaaa
