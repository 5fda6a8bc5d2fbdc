/- The walks of exact laws, from the two functions' contracts (written by program). -/
import Derived.Test.YtpelicepgeoopaaMark2
import Derived.Test.YtpelicepgeoopaaSpec2G
namespace Go.Proofs.Ytpelicepgeoopaa
open Go.ChangeShapes Go.WideShapes Go.ChangeAt Go.RowKit
set_option linter.unusedVariables false

set_option maxRecDepth 100000 in
set_option maxHeartbeats 3200000 in
theorem lawBinomialPolynomial (n0 : Int) (n1 : Int) (ys : List Int) (R1 : Bool) (w : World) (hys : ys.length ≤ 1048576)
    (hS : ∀ w, Calls Try.prog 8 #[.int .i64 n0, .int .i64 n1] w fun e w' => ∃ v, e = .returned (.tuple #[v, .bool R1]) ∧ OwnI w' w.heap.size w'.heap.size v ys ∧ Below w.heap.size w w')
    (hI : ∀ w, Calls Try.prog 9 #[.int .i64 n0, .int .i64 n1] w fun e w' => ∃ v, e = .returned (.tuple #[v, .bool R1]) ∧ OwnI w' w.heap.size w'.heap.size v ys ∧ Below w.heap.size w w') :
    Calls Try.prog 3 #[.int .i64 n0, .int .i64 n1] w fun e w' => e = .returned (.bool true) ∧ Below w.heap.size w w' := by
  have HS := Lib.hid (hS)
  have HI := Lib.hid (hI)
  clear hS hI
  have hr1 : (R1 != R1) = false := by simp
  have hq1 : (R1 == R1) = true := by simp
  have Hw0 := Lib.hid (Below.refl w.heap.size w)
  go_enter Try.func3, Try.ntmps3
  go_wp2_with fail
  (with_reducible refine (HS.out _).mono ?_)
  rintro e w1 ⟨v1, rfl, ho, hb⟩
  have z1 := hb.size
  obtain ⟨A1, c1, rfl, -⟩ := id ho
  have W0 := Lib.hid ho
  have Hw1 := Lib.hid (Hw0.out.trans (hb.mono Hw0.out.size))
  clear hb ho
  go_wp2_with fail
  (with_reducible refine (HI.out _).mono ?_)
  rintro e w2 ⟨v2, rfl, ho, hb⟩
  have z2 := hb.size
  obtain ⟨A2, c2, rfl, -⟩ := id ho
  have G0 := Lib.hid ho
  have W0_2 := Lib.hid (W0.out.keep hb (by omega))
  have Hw2 := Lib.hid (Hw1.out.trans (hb.mono Hw1.out.size))
  clear hb ho
  go_wp2_with fail
  (with_reducible refine (eqI_same _ _ _ _ _ _ ys _ G0.out W0_2.out (by omega)).mono ?_)
  rintro e w3 ⟨rfl, hb⟩
  have z3 := hb.size
  have W0_3 := Lib.hid (W0_2.out.keep hb (by omega))
  have G0_3 := Lib.hid (G0.out.keep hb (by omega))
  have Hw3 := Lib.hid (Hw2.out.trans (hb.mono Hw2.out.size))
  clear hb
  go_wp2_with fail
  (with_reducible refine (markO _ _ _ ys 1 _ G0_3.out (by omega) (by omega) (by omega)).mono ?_)
  rintro e w4 ⟨rfl, ho, hb⟩
  have z4 := hb.size
  have G0_m := Lib.hid ho
  have W0_4 := Lib.hid (W0_3.out.apart hb (by omega))
  have Hw4 := Lib.hid (Hw3.out.trans (hb.below (by omega)))
  clear hb ho
  have e1 : (1 : Int) + (ys.length : Int) = (1 : Int) + (ys.length : Int) := rfl
  go_wp2_with fail
  (with_reducible refine (heldI _ _ _ ys.length 1 _ G0_m.out (by omega) (by omega) (by omega)).mono ?_)
  rintro e w' ⟨rfl, hweq⟩
  subst hweq
  go_wp2_with fail
  (with_reducible refine (HI.out _).mono ?_)
  rintro e w6 ⟨v6, rfl, ho, hb⟩
  have z6 := hb.size
  obtain ⟨A6, c6, rfl, -⟩ := id ho
  have H0 := Lib.hid ho
  have W0_6 := Lib.hid (W0_4.out.keep hb (by omega))
  have G0_6 := Lib.hid (G0_m.out.keep hb (by omega))
  have Hw6 := Lib.hid (Hw4.out.trans (hb.mono Hw4.out.size))
  clear hb ho
  go_wp2_with fail
  (with_reducible refine (eqI_same _ _ _ _ _ _ ys _ H0.out W0_6.out (by omega)).mono ?_)
  rintro e w7 ⟨rfl, hb⟩
  have z7 := hb.size
  have W0_7 := Lib.hid (W0_6.out.keep hb (by omega))
  have G0_7 := Lib.hid (G0_6.out.keep hb (by omega))
  have H0_7 := Lib.hid (H0.out.keep hb (by omega))
  have Hw7 := Lib.hid (Hw6.out.trans (hb.mono Hw6.out.size))
  clear hb
  go_wp2_with fail
  (with_reducible refine (heldI _ _ _ ys.length 1 _ G0_7.out (by omega) (by omega) (by omega)).mono ?_)
  rintro e w' ⟨rfl, hweq⟩
  subst hweq
  go_wp2
  go_ret
  exact ⟨rfl, Hw7.out⟩

set_option maxRecDepth 100000 in
set_option maxHeartbeats 3200000 in
theorem lawCatalanPolynomial (n0 : Int) (ys : List Int) (R1 : Bool) (w : World) (hys : ys.length ≤ 1048576)
    (hS : ∀ w, Calls Try.prog 13 #[.int .i64 n0] w fun e w' => ∃ v, e = .returned (.tuple #[v, .bool R1]) ∧ OwnI w' w.heap.size w'.heap.size v ys ∧ Below w.heap.size w w')
    (hI : ∀ w, Calls Try.prog 14 #[.int .i64 n0] w fun e w' => ∃ v, e = .returned (.tuple #[v, .bool R1]) ∧ OwnI w' w.heap.size w'.heap.size v ys ∧ Below w.heap.size w w') :
    Calls Try.prog 4 #[.int .i64 n0] w fun e w' => e = .returned (.bool true) ∧ Below w.heap.size w w' := by
  have HS := Lib.hid (hS)
  have HI := Lib.hid (hI)
  clear hS hI
  have hr1 : (R1 != R1) = false := by simp
  have hq1 : (R1 == R1) = true := by simp
  have Hw0 := Lib.hid (Below.refl w.heap.size w)
  go_enter Try.func4, Try.ntmps4
  go_wp2_with fail
  (with_reducible refine (HS.out _).mono ?_)
  rintro e w1 ⟨v1, rfl, ho, hb⟩
  have z1 := hb.size
  obtain ⟨A1, c1, rfl, -⟩ := id ho
  have W0 := Lib.hid ho
  have Hw1 := Lib.hid (Hw0.out.trans (hb.mono Hw0.out.size))
  clear hb ho
  go_wp2_with fail
  (with_reducible refine (HI.out _).mono ?_)
  rintro e w2 ⟨v2, rfl, ho, hb⟩
  have z2 := hb.size
  obtain ⟨A2, c2, rfl, -⟩ := id ho
  have G0 := Lib.hid ho
  have W0_2 := Lib.hid (W0.out.keep hb (by omega))
  have Hw2 := Lib.hid (Hw1.out.trans (hb.mono Hw1.out.size))
  clear hb ho
  go_wp2_with fail
  (with_reducible refine (eqI_same _ _ _ _ _ _ ys _ G0.out W0_2.out (by omega)).mono ?_)
  rintro e w3 ⟨rfl, hb⟩
  have z3 := hb.size
  have W0_3 := Lib.hid (W0_2.out.keep hb (by omega))
  have G0_3 := Lib.hid (G0.out.keep hb (by omega))
  have Hw3 := Lib.hid (Hw2.out.trans (hb.mono Hw2.out.size))
  clear hb
  go_wp2_with fail
  (with_reducible refine (markO _ _ _ ys 1 _ G0_3.out (by omega) (by omega) (by omega)).mono ?_)
  rintro e w4 ⟨rfl, ho, hb⟩
  have z4 := hb.size
  have G0_m := Lib.hid ho
  have W0_4 := Lib.hid (W0_3.out.apart hb (by omega))
  have Hw4 := Lib.hid (Hw3.out.trans (hb.below (by omega)))
  clear hb ho
  have e1 : (1 : Int) + (ys.length : Int) = (1 : Int) + (ys.length : Int) := rfl
  go_wp2_with fail
  (with_reducible refine (heldI _ _ _ ys.length 1 _ G0_m.out (by omega) (by omega) (by omega)).mono ?_)
  rintro e w' ⟨rfl, hweq⟩
  subst hweq
  go_wp2_with fail
  (with_reducible refine (HI.out _).mono ?_)
  rintro e w6 ⟨v6, rfl, ho, hb⟩
  have z6 := hb.size
  obtain ⟨A6, c6, rfl, -⟩ := id ho
  have H0 := Lib.hid ho
  have W0_6 := Lib.hid (W0_4.out.keep hb (by omega))
  have G0_6 := Lib.hid (G0_m.out.keep hb (by omega))
  have Hw6 := Lib.hid (Hw4.out.trans (hb.mono Hw4.out.size))
  clear hb ho
  go_wp2_with fail
  (with_reducible refine (eqI_same _ _ _ _ _ _ ys _ H0.out W0_6.out (by omega)).mono ?_)
  rintro e w7 ⟨rfl, hb⟩
  have z7 := hb.size
  have W0_7 := Lib.hid (W0_6.out.keep hb (by omega))
  have G0_7 := Lib.hid (G0_6.out.keep hb (by omega))
  have H0_7 := Lib.hid (H0.out.keep hb (by omega))
  have Hw7 := Lib.hid (Hw6.out.trans (hb.mono Hw6.out.size))
  clear hb
  go_wp2_with fail
  (with_reducible refine (heldI _ _ _ ys.length 1 _ G0_7.out (by omega) (by omega) (by omega)).mono ?_)
  rintro e w' ⟨rfl, hweq⟩
  subst hweq
  go_wp2
  go_ret
  exact ⟨rfl, Hw7.out⟩

end Go.Proofs.Ytpelicepgeoopaa
