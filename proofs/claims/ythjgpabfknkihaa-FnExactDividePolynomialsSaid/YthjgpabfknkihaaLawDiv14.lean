/- The walks of exact laws, from the two functions' contracts (written by program). -/
import Derived.Test.YthjgpabfknkihaaMark2
import Derived.Test.YthjgpabfknkihaaSpec2G
namespace Go.Proofs.Ythjgpabfknkihaa
open Go.ChangeShapes Go.WideShapes Go.ChangeAt Go.RowKit
set_option linter.unusedVariables false

set_option maxRecDepth 100000 in
set_option maxHeartbeats 3200000 in
theorem lawDividePolynomials (v0 : Value) (xs0 : List Int) (v1 : Value) (xs1 : List Int) (ys0 : List Int) (ys1 : List Int) (R2 : Bool) (w : World) (hv0 : ArgI w v0 xs0) (mp0 : xs0.length ≤ 9223372036854775807) (hv1 : ArgI w v1 xs1) (mp1 : xs1.length ≤ 9223372036854775807) (hys : ys0.length ≤ 1048576) (hys' : ys1.length ≤ 1048576)
    (hS : xs0.length ≤ 1048576 → xs1.length ≤ 1048576 → ∀ u0 lo0 hi0, ∀ u1 lo1 hi1, ∀ w, OwnI w lo0 hi0 (.slice u0 xs0.length xs0.length) xs0 → hi0 ≤ w.heap.size → OwnI w lo1 hi1 (.slice u1 xs1.length xs1.length) xs1 → hi1 ≤ w.heap.size → Calls Try.prog 7 #[(.slice u0 xs0.length xs0.length), (.slice u1 xs1.length xs1.length)] w fun e w' => ∃ v0' v1' m, e = .returned (.tuple #[v0', v1', .bool R2]) ∧ OwnI w' w.heap.size m v0' ys0 ∧ OwnI w' m w'.heap.size v1' ys1 ∧ w.heap.size ≤ m ∧ m ≤ w'.heap.size ∧ Below w.heap.size w w')
    (hI : xs0.length ≤ 1048576 → xs1.length ≤ 1048576 → ∀ u0 lo0 hi0, ∀ u1 lo1 hi1, ∀ w, OwnI w lo0 hi0 (.slice u0 xs0.length xs0.length) xs0 → hi0 ≤ w.heap.size → OwnI w lo1 hi1 (.slice u1 xs1.length xs1.length) xs1 → hi1 ≤ w.heap.size → Calls Try.prog 9 #[(.slice u0 xs0.length xs0.length), (.slice u1 xs1.length xs1.length)] w fun e w' => ∃ v0' v1' m, e = .returned (.tuple #[v0', v1', .bool R2]) ∧ OwnI w' m w'.heap.size v0' ys0 ∧ OwnI w' w.heap.size m v1' ys1 ∧ w.heap.size ≤ m ∧ m ≤ w'.heap.size ∧ Below w.heap.size w w') :
    Calls Try.prog 3 #[v0, v1] w fun e w' => e = .returned (.bool true) ∧ Below w.heap.size w w' := by
  obtain ⟨Aa0, ca0, rfl, -⟩ := id hv0
  obtain ⟨Aa1, ca1, rfl, -⟩ := id hv1
  by_cases hbig0 : 1048576 < xs0.length
  · have hbi0 : (1048576 : Int) < (xs0.length : Int) := by omega
    clear hS hI hv0 hv1
    go_enter Try.func3, Try.ntmps3
    go_wp2
    go_ret
    exact ⟨rfl, Below.refl _ _⟩
  have hsm0 : xs0.length ≤ 1048576 := by omega
  by_cases hbig1 : 1048576 < xs1.length
  · have hbi1 : (1048576 : Int) < (xs1.length : Int) := by omega
    clear hS hI hv0 hv1
    go_enter Try.func3, Try.ntmps3
    go_wp2
    go_ret
    exact ⟨rfl, Below.refl _ _⟩
  have hsm1 : xs1.length ≤ 1048576 := by omega
  have HS := Lib.hid (hS hsm0 hsm1)
  have HI := Lib.hid (hI hsm0 hsm1)
  have HV0 := Lib.hid hv0
  have HV1 := Lib.hid hv1
  clear hS hI hv0 hv1
  have hr2 : (R2 != R2) = false := by simp
  have hq2 : (R2 == R2) = true := by simp
  have Hw0 := Lib.hid (Below.refl w.heap.size w)
  go_enter Try.func3, Try.ntmps3
  go_wp2_with fail
  (with_reducible refine (toIntC _ xs0 _ (HV0.out.keep Hw0.out) hsm0).mono ?_)
  rintro e w1 ⟨A1, rfl, ho, hb⟩
  have z1 := hb.size
  have T0 := Lib.hid ho
  have Hw1 := Lib.hid (Hw0.out.trans (hb.mono Hw0.out.size))
  clear hb ho
  go_wp2_with fail
  (with_reducible refine (toIntC _ xs1 _ (HV1.out.keep Hw1.out) hsm1).mono ?_)
  rintro e w2 ⟨A2, rfl, ho, hb⟩
  have z2 := hb.size
  have T1 := Lib.hid ho
  have T0_2 := Lib.hid (T0.out.keep hb (by omega))
  have Hw2 := Lib.hid (Hw1.out.trans (hb.mono Hw1.out.size))
  clear hb ho
  go_wp2_with fail
  (with_reducible refine (HS.out _ _ _ _ _ _ _ T0_2.out (by omega) T1.out (by omega)).mono ?_)
  rintro e w3 ⟨v3, u3, m3, rfl, ho, ho', hm3, hn3, hb⟩
  have z3 := hb.size
  obtain ⟨A3, c3, rfl, -⟩ := id ho
  obtain ⟨B3, d3, rfl, -⟩ := id ho'
  have W0a := Lib.hid ho
  have W0b := Lib.hid ho'
  have T0_3 := Lib.hid (T0_2.out.keep hb (by omega))
  have T1_3 := Lib.hid (T1.out.keep hb (by omega))
  have Hw3 := Lib.hid (Hw2.out.trans (hb.mono Hw2.out.size))
  clear hb ho ho'
  go_wp2_with fail
  (with_reducible refine (toIntC _ xs0 _ (HV0.out.keep Hw3.out) hsm0).mono ?_)
  rintro e w4 ⟨A4, rfl, ho, hb⟩
  have z4 := hb.size
  have X0 := Lib.hid ho
  have W0a_4 := Lib.hid (W0a.out.keep hb (by omega))
  have W0b_4 := Lib.hid (W0b.out.keep hb (by omega))
  have Hw4 := Lib.hid (Hw3.out.trans (hb.mono Hw3.out.size))
  clear hb ho
  go_wp2_with fail
  (with_reducible refine (toIntC _ xs1 _ (HV1.out.keep Hw4.out) hsm1).mono ?_)
  rintro e w5 ⟨A5, rfl, ho, hb⟩
  have z5 := hb.size
  have X1 := Lib.hid ho
  have W0a_5 := Lib.hid (W0a_4.out.keep hb (by omega))
  have W0b_5 := Lib.hid (W0b_4.out.keep hb (by omega))
  have X0_5 := Lib.hid (X0.out.keep hb (by omega))
  have Hw5 := Lib.hid (Hw4.out.trans (hb.mono Hw4.out.size))
  clear hb ho
  go_wp2_with fail
  (with_reducible refine (HI.out _ _ _ _ _ _ _ X0_5.out (by omega) X1.out (by omega)).mono ?_)
  rintro e w6 ⟨v6, u6, m6, rfl, ho, ho', hm6, hn6, hb⟩
  have z6 := hb.size
  obtain ⟨A6, c6, rfl, -⟩ := id ho
  obtain ⟨B6, d6, rfl, -⟩ := id ho'
  have G0a := Lib.hid ho
  have G0b := Lib.hid ho'
  have W0a_6 := Lib.hid (W0a_5.out.keep hb (by omega))
  have W0b_6 := Lib.hid (W0b_5.out.keep hb (by omega))
  have X0_6 := Lib.hid (X0_5.out.keep hb (by omega))
  have X1_6 := Lib.hid (X1.out.keep hb (by omega))
  have Hw6 := Lib.hid (Hw5.out.trans (hb.mono Hw5.out.size))
  clear hb ho ho'
  go_wp2_with fail
  (with_reducible refine (eqI_same _ _ _ _ _ _ ys0 _ G0a.out W0a_6.out (by omega)).mono ?_)
  rintro e w7 ⟨rfl, hb⟩
  have z7 := hb.size
  have W0a_7 := Lib.hid (W0a_6.out.keep hb (by omega))
  have W0b_7 := Lib.hid (W0b_6.out.keep hb (by omega))
  have X0_7 := Lib.hid (X0_6.out.keep hb (by omega))
  have X1_7 := Lib.hid (X1_6.out.keep hb (by omega))
  have G0a_7 := Lib.hid (G0a.out.keep hb (by omega))
  have G0b_7 := Lib.hid (G0b.out.keep hb (by omega))
  have Hw7 := Lib.hid (Hw6.out.trans (hb.mono Hw6.out.size))
  clear hb
  go_wp2_with fail
  (with_reducible refine (eqI_same _ _ _ _ _ _ ys1 _ G0b_7.out W0b_7.out (by omega)).mono ?_)
  rintro e w8 ⟨rfl, hb⟩
  have z8 := hb.size
  have W0a_8 := Lib.hid (W0a_7.out.keep hb (by omega))
  have W0b_8 := Lib.hid (W0b_7.out.keep hb (by omega))
  have X0_8 := Lib.hid (X0_7.out.keep hb (by omega))
  have X1_8 := Lib.hid (X1_7.out.keep hb (by omega))
  have G0a_8 := Lib.hid (G0a_7.out.keep hb (by omega))
  have G0b_8 := Lib.hid (G0b_7.out.keep hb (by omega))
  have Hw8 := Lib.hid (Hw7.out.trans (hb.mono Hw7.out.size))
  clear hb
  go_wp2_with fail
  (with_reducible refine (toIntC _ xs0 _ (HV0.out.keep Hw8.out) hsm0).mono ?_)
  rintro e w9 ⟨A9, rfl, ho, hb⟩
  have z9 := hb.size
  have T0 := Lib.hid ho
  have W0a_9 := Lib.hid (W0a_8.out.keep hb (by omega))
  have W0b_9 := Lib.hid (W0b_8.out.keep hb (by omega))
  have X0_9 := Lib.hid (X0_8.out.keep hb (by omega))
  have X1_9 := Lib.hid (X1_8.out.keep hb (by omega))
  have G0a_9 := Lib.hid (G0a_8.out.keep hb (by omega))
  have G0b_9 := Lib.hid (G0b_8.out.keep hb (by omega))
  have Hw9 := Lib.hid (Hw8.out.trans (hb.mono Hw8.out.size))
  clear hb ho
  go_wp2_with fail
  (with_reducible refine (eqI_same _ _ _ _ _ _ xs0 _ X0_9.out T0.out (by omega)).mono ?_)
  rintro e w10 ⟨rfl, hb⟩
  have z10 := hb.size
  have W0a_10 := Lib.hid (W0a_9.out.keep hb (by omega))
  have W0b_10 := Lib.hid (W0b_9.out.keep hb (by omega))
  have X0_10 := Lib.hid (X0_9.out.keep hb (by omega))
  have X1_10 := Lib.hid (X1_9.out.keep hb (by omega))
  have G0a_10 := Lib.hid (G0a_9.out.keep hb (by omega))
  have G0b_10 := Lib.hid (G0b_9.out.keep hb (by omega))
  have T0_10 := Lib.hid (T0.out.keep hb (by omega))
  have Hw10 := Lib.hid (Hw9.out.trans (hb.mono Hw9.out.size))
  clear hb
  go_wp2_with fail
  (with_reducible refine (toIntC _ xs1 _ (HV1.out.keep Hw10.out) hsm1).mono ?_)
  rintro e w11 ⟨A11, rfl, ho, hb⟩
  have z11 := hb.size
  have T1 := Lib.hid ho
  have W0a_11 := Lib.hid (W0a_10.out.keep hb (by omega))
  have W0b_11 := Lib.hid (W0b_10.out.keep hb (by omega))
  have X0_11 := Lib.hid (X0_10.out.keep hb (by omega))
  have X1_11 := Lib.hid (X1_10.out.keep hb (by omega))
  have G0a_11 := Lib.hid (G0a_10.out.keep hb (by omega))
  have G0b_11 := Lib.hid (G0b_10.out.keep hb (by omega))
  have Hw11 := Lib.hid (Hw10.out.trans (hb.mono Hw10.out.size))
  clear hb ho
  go_wp2_with fail
  (with_reducible refine (eqI_same _ _ _ _ _ _ xs1 _ X1_11.out T1.out (by omega)).mono ?_)
  rintro e w12 ⟨rfl, hb⟩
  have z12 := hb.size
  have W0a_12 := Lib.hid (W0a_11.out.keep hb (by omega))
  have W0b_12 := Lib.hid (W0b_11.out.keep hb (by omega))
  have X0_12 := Lib.hid (X0_11.out.keep hb (by omega))
  have X1_12 := Lib.hid (X1_11.out.keep hb (by omega))
  have G0a_12 := Lib.hid (G0a_11.out.keep hb (by omega))
  have G0b_12 := Lib.hid (G0b_11.out.keep hb (by omega))
  have T1_12 := Lib.hid (T1.out.keep hb (by omega))
  have Hw12 := Lib.hid (Hw11.out.trans (hb.mono Hw11.out.size))
  clear hb
  go_wp2_with fail
  (with_reducible refine (markO _ _ _ xs0 1 _ X0_12.out (by omega) (by omega) (by omega)).mono ?_)
  rintro e w13 ⟨rfl, ho, hb⟩
  have z13 := hb.size
  have X0_m := Lib.hid ho
  have W0a_13 := Lib.hid (W0a_12.out.apart hb (by omega))
  have W0b_13 := Lib.hid (W0b_12.out.apart hb (by omega))
  have X1_13 := Lib.hid (X1_12.out.apart hb (by omega))
  have G0a_13 := Lib.hid (G0a_12.out.apart hb (by omega))
  have G0b_13 := Lib.hid (G0b_12.out.apart hb (by omega))
  have Hw13 := Lib.hid (Hw12.out.trans (hb.below (by omega)))
  clear hb ho
  go_wp2_with fail
  (with_reducible refine (markO _ _ _ xs1 (1 + (xs0.length : Int)) _ X1_13.out (by omega) (by omega) (by omega)).mono ?_)
  rintro e w14 ⟨rfl, ho, hb⟩
  have z14 := hb.size
  have X1_m := Lib.hid ho
  have W0a_14 := Lib.hid (W0a_13.out.apart hb (by omega))
  have W0b_14 := Lib.hid (W0b_13.out.apart hb (by omega))
  have G0a_14 := Lib.hid (G0a_13.out.apart hb (by omega))
  have G0b_14 := Lib.hid (G0b_13.out.apart hb (by omega))
  have Hw14 := Lib.hid (Hw13.out.trans (hb.below (by omega)))
  clear hb ho
  go_wp2_with fail
  (with_reducible refine (eqI_same _ _ _ _ _ _ ys0 _ G0a_14.out W0a_14.out (by omega)).mono ?_)
  rintro e w15 ⟨rfl, hb⟩
  have z15 := hb.size
  have W0a_15 := Lib.hid (W0a_14.out.keep hb (by omega))
  have W0b_15 := Lib.hid (W0b_14.out.keep hb (by omega))
  have G0a_15 := Lib.hid (G0a_14.out.keep hb (by omega))
  have G0b_15 := Lib.hid (G0b_14.out.keep hb (by omega))
  have Hw15 := Lib.hid (Hw14.out.trans (hb.mono Hw14.out.size))
  clear hb
  go_wp2_with fail
  (with_reducible refine (eqI_same _ _ _ _ _ _ ys1 _ G0b_15.out W0b_15.out (by omega)).mono ?_)
  rintro e w16 ⟨rfl, hb⟩
  have z16 := hb.size
  have W0a_16 := Lib.hid (W0a_15.out.keep hb (by omega))
  have W0b_16 := Lib.hid (W0b_15.out.keep hb (by omega))
  have G0a_16 := Lib.hid (G0a_15.out.keep hb (by omega))
  have G0b_16 := Lib.hid (G0b_15.out.keep hb (by omega))
  have Hw16 := Lib.hid (Hw15.out.trans (hb.mono Hw15.out.size))
  clear hb
  go_wp2_with fail
  (with_reducible refine (markO _ _ _ ys0 1 _ G0a_16.out (by omega) (by omega) (by omega)).mono ?_)
  rintro e w17 ⟨rfl, ho, hb⟩
  have z17 := hb.size
  have G0a_m := Lib.hid ho
  have W0a_17 := Lib.hid (W0a_16.out.apart hb (by omega))
  have W0b_17 := Lib.hid (W0b_16.out.apart hb (by omega))
  have G0b_17 := Lib.hid (G0b_16.out.apart hb (by omega))
  have Hw17 := Lib.hid (Hw16.out.trans (hb.below (by omega)))
  clear hb ho
  go_wp2_with fail
  (with_reducible refine (markO _ _ _ ys1 (1 + (ys0.length : Int)) _ G0b_17.out (by omega) (by omega) (by omega)).mono ?_)
  rintro e w18 ⟨rfl, ho, hb⟩
  have z18 := hb.size
  have G0b_m := Lib.hid ho
  have W0a_18 := Lib.hid (W0a_17.out.apart hb (by omega))
  have W0b_18 := Lib.hid (W0b_17.out.apart hb (by omega))
  have G0a_18 := Lib.hid (G0a_m.out.apart hb (by omega))
  have Hw18 := Lib.hid (Hw17.out.trans (hb.below (by omega)))
  clear hb ho
  go_wp2_with fail
  (with_reducible refine (heldI _ _ _ ys0.length 1 _ G0a_18.out (by omega) (by omega) (by omega)).mono ?_)
  rintro e w' ⟨rfl, hweq⟩
  subst hweq
  go_wp2_with fail
  (with_reducible refine (heldI _ _ _ ys1.length (1 + (ys0.length : Int)) _ G0b_m.out (by omega) (by omega) (by omega)).mono ?_)
  rintro e w' ⟨rfl, hweq⟩
  subst hweq
  go_wp2_with fail
  (with_reducible refine (toIntC _ xs0 _ (HV0.out.keep Hw18.out) hsm0).mono ?_)
  rintro e w19 ⟨A19, rfl, ho, hb⟩
  have z19 := hb.size
  have T0 := Lib.hid ho
  have W0a_19 := Lib.hid (W0a_18.out.keep hb (by omega))
  have W0b_19 := Lib.hid (W0b_18.out.keep hb (by omega))
  have G0a_19 := Lib.hid (G0a_18.out.keep hb (by omega))
  have G0b_19 := Lib.hid (G0b_m.out.keep hb (by omega))
  have Hw19 := Lib.hid (Hw18.out.trans (hb.mono Hw18.out.size))
  clear hb ho
  go_wp2_with fail
  (with_reducible refine (toIntC _ xs1 _ (HV1.out.keep Hw19.out) hsm1).mono ?_)
  rintro e w20 ⟨A20, rfl, ho, hb⟩
  have z20 := hb.size
  have T1 := Lib.hid ho
  have W0a_20 := Lib.hid (W0a_19.out.keep hb (by omega))
  have W0b_20 := Lib.hid (W0b_19.out.keep hb (by omega))
  have G0a_20 := Lib.hid (G0a_19.out.keep hb (by omega))
  have G0b_20 := Lib.hid (G0b_19.out.keep hb (by omega))
  have T0_20 := Lib.hid (T0.out.keep hb (by omega))
  have Hw20 := Lib.hid (Hw19.out.trans (hb.mono Hw19.out.size))
  clear hb ho
  go_wp2_with fail
  (with_reducible refine (HI.out _ _ _ _ _ _ _ T0_20.out (by omega) T1.out (by omega)).mono ?_)
  rintro e w21 ⟨v21, u21, m21, rfl, ho, ho', hm21, hn21, hb⟩
  have z21 := hb.size
  obtain ⟨A21, c21, rfl, -⟩ := id ho
  obtain ⟨B21, d21, rfl, -⟩ := id ho'
  have H0a := Lib.hid ho
  have H0b := Lib.hid ho'
  have W0a_21 := Lib.hid (W0a_20.out.keep hb (by omega))
  have W0b_21 := Lib.hid (W0b_20.out.keep hb (by omega))
  have G0a_21 := Lib.hid (G0a_20.out.keep hb (by omega))
  have G0b_21 := Lib.hid (G0b_20.out.keep hb (by omega))
  have T0_21 := Lib.hid (T0_20.out.keep hb (by omega))
  have T1_21 := Lib.hid (T1.out.keep hb (by omega))
  have Hw21 := Lib.hid (Hw20.out.trans (hb.mono Hw20.out.size))
  clear hb ho ho'
  go_wp2_with fail
  (with_reducible refine (eqI_same _ _ _ _ _ _ ys0 _ H0a.out W0a_21.out (by omega)).mono ?_)
  rintro e w22 ⟨rfl, hb⟩
  have z22 := hb.size
  have W0a_22 := Lib.hid (W0a_21.out.keep hb (by omega))
  have W0b_22 := Lib.hid (W0b_21.out.keep hb (by omega))
  have G0a_22 := Lib.hid (G0a_21.out.keep hb (by omega))
  have G0b_22 := Lib.hid (G0b_21.out.keep hb (by omega))
  have H0a_22 := Lib.hid (H0a.out.keep hb (by omega))
  have H0b_22 := Lib.hid (H0b.out.keep hb (by omega))
  have Hw22 := Lib.hid (Hw21.out.trans (hb.mono Hw21.out.size))
  clear hb
  go_wp2_with fail
  (with_reducible refine (eqI_same _ _ _ _ _ _ ys1 _ H0b_22.out W0b_22.out (by omega)).mono ?_)
  rintro e w23 ⟨rfl, hb⟩
  have z23 := hb.size
  have W0a_23 := Lib.hid (W0a_22.out.keep hb (by omega))
  have W0b_23 := Lib.hid (W0b_22.out.keep hb (by omega))
  have G0a_23 := Lib.hid (G0a_22.out.keep hb (by omega))
  have G0b_23 := Lib.hid (G0b_22.out.keep hb (by omega))
  have H0a_23 := Lib.hid (H0a_22.out.keep hb (by omega))
  have H0b_23 := Lib.hid (H0b_22.out.keep hb (by omega))
  have Hw23 := Lib.hid (Hw22.out.trans (hb.mono Hw22.out.size))
  clear hb
  go_wp2_with fail
  (with_reducible refine (heldI _ _ _ ys0.length 1 _ G0a_23.out (by omega) (by omega) (by omega)).mono ?_)
  rintro e w' ⟨rfl, hweq⟩
  subst hweq
  go_wp2_with fail
  (with_reducible refine (heldI _ _ _ ys1.length (1 + (ys0.length : Int)) _ G0b_23.out (by omega) (by omega) (by omega)).mono ?_)
  rintro e w' ⟨rfl, hweq⟩
  subst hweq
  go_wp2
  go_ret
  exact ⟨rfl, Hw23.out⟩

end Go.Proofs.Ythjgpabfknkihaa
