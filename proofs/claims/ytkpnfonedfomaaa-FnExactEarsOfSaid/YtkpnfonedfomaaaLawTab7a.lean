/- The walks of exact laws over tables that came in (written by program). -/
import Derived.Test.YtkpnfonedfomaaaTabC11
import Derived.Test.YtkpnfonedfomaaaTblKZ
namespace Go.Proofs.Ytkpnfonedfomaaa
open Go.ChangeShapes Go.WideShapes Go.ChangeAt Go.RowKit
set_option linter.unusedVariables false

set_option maxRecDepth 100000 in
set_option maxHeartbeats 3200000 in
theorem lawIsTriangulation (n0 : Int) (v1 : Value) (ls1 : List (List Int)) (R0 : Bool) (w : World) (hv1 : ArgT w v1 ls1) (mp1 : ls1.length ≤ 9223372036854775807) (mr1 : ∀ j, (ls1.getD j []).length ≤ 9223372036854775807)
    (hS : ls1.length ≤ 1048576 → (∀ j, (ls1.getD j []).length ≤ 1048576) → ∀ u1 lo1 hi1, ∀ w, OwnT w lo1 hi1 (.slice u1 ls1.length ls1.length) ls1 → hi1 ≤ w.heap.size → Calls Try.prog 10 #[.int .i64 n0, (.slice u1 ls1.length ls1.length)] w fun e w' => e = .returned (.bool R0) ∧ Below w.heap.size w w')
    (hI : ls1.length ≤ 1048576 → (∀ j, (ls1.getD j []).length ≤ 1048576) → ∀ u1 lo1 hi1, ∀ w, OwnT w lo1 hi1 (.slice u1 ls1.length ls1.length) ls1 → hi1 ≤ w.heap.size → Calls Try.prog 12 #[.int .i64 n0, (.slice u1 ls1.length ls1.length)] w fun e w' => e = .returned (.bool R0) ∧ Below w.heap.size w w') :
    Calls Try.prog 3 #[.int .i64 n0, v1] w fun e w' => e = .returned (.bool true) ∧ Below w.heap.size w w' := by
  have HV1 := Lib.hid hv1
  have MR1 := Lib.hid mr1
  obtain ⟨Aa1, ca1, rfl, -⟩ := id hv1
  have HS0 := Lib.hid hS
  have HI0 := Lib.hid hI
  clear hS hI hv1 mr1
  go_enter Try.func3, Try.ntmps3
  go_wp2_with fail
  (with_reducible refine (szTT _ ls1 1048576 _ HV1.out mp1 MR1.out (by omega) (by omega)).mono ?_)
  rintro e w' ⟨⟨r1, rfl, h⟩, hweq⟩
  subst hweq
  rcases h with h | ⟨h, hk1⟩
  · go_wp2
    go_ret
    exact ⟨rfl, Below.refl _ _⟩
  have hn1 : ¬ r1 < 0 := by omega
  have hl1 : ls1.length ≤ 1048576 := by omega
  have ht1 : tot ls1 ≤ 1048576 := by omega
  have HRW1 := Lib.hid (fun j => show (ls1.getD j []).length ≤ 1048576 from Nat.le_trans (row_tot ls1 j) ht1)
  have HRA1 := Lib.hid (fun j => show (ls1.getD j []).length ≤ 1099511627776 from Nat.le_trans (HRW1.out j) (by decide))
  have HK1 := Lib.hid hk1
  have HS := Lib.hid (HS0.out hl1 HRW1.out)
  have HI := Lib.hid (HI0.out hl1 HRW1.out)
  clear hk1 h
  have hr0 : (R0 != R0) = false := by simp
  have hq0 : (R0 == R0) = true := by simp
  have Hw0 := Lib.hid (Below.refl w'.heap.size w')
  go_wp2_with fail
  (with_reducible refine (toTA _ ls1 _ (HV1.out.keep Hw0.out) hl1 (fun j _ => HRW1.out j)).mono ?_)
  rintro e w1 ⟨A1, vs1, LO1, HI1, rfl, ho, hb⟩
  have z1 := hb.size
  have T1 := Lib.hid ho
  have Hw1 := Lib.hid (Hw0.out.trans (hb.mono Hw0.out.size))
  clear hb ho
  go_wp2_with fail
  (with_reducible refine (HS.out _ _ _ _ T1.out.toT (by omega)).mono ?_)
  rintro e w2 ⟨rfl, hb⟩
  have z2 := hb.size
  have T1_2 := Lib.hid (T1.out.keep hb (by omega))
  have Hw2 := Lib.hid (Hw1.out.trans (hb.mono Hw1.out.size))
  clear hb
  go_wp2_with fail
  (with_reducible refine (toTA _ ls1 _ (HV1.out.keep Hw2.out) hl1 (fun j _ => HRW1.out j)).mono ?_)
  rintro e w3 ⟨A3, vs3, LO3, HI3, rfl, ho, hb⟩
  have z3 := hb.size
  have X1 := Lib.hid ho
  have Hw3 := Lib.hid (Hw2.out.trans (hb.mono Hw2.out.size))
  clear hb ho
  go_wp2_with fail
  (with_reducible refine (HI.out _ _ _ _ X1.out.toT (by omega)).mono ?_)
  rintro e w4 ⟨rfl, hb⟩
  have z4 := hb.size
  have X1_4 := Lib.hid (X1.out.keep hb (by omega))
  have Hw4 := Lib.hid (Hw3.out.trans (hb.mono Hw3.out.size))
  clear hb
  go_wp2_with fail
  (with_reducible refine (toTA _ ls1 _ (HV1.out.keep Hw4.out) hl1 (fun j _ => HRW1.out j)).mono ?_)
  rintro e w5 ⟨A5, vs5, LO5, HI5, rfl, ho, hb⟩
  have z5 := hb.size
  have T1 := Lib.hid ho
  have X1_5 := Lib.hid (X1_4.out.keep hb (by omega))
  have Hw5 := Lib.hid (Hw4.out.trans (hb.mono Hw4.out.size))
  clear hb ho
  go_wp2_with fail
  (with_reducible refine (eqSS_same _ _ _ _ _ _ ls1 _ X1_5.out.toT T1.out.toT (by omega) (by omega) (by omega) HRA1.out).mono ?_)
  rintro e w6 ⟨rfl, hb⟩
  have z6 := hb.size
  have X1_6 := Lib.hid (X1_5.out.keep hb (by omega))
  have T1_6 := Lib.hid (T1.out.keep hb (by omega))
  have Hw6 := Lib.hid (Hw5.out.trans (hb.mono Hw5.out.size))
  clear hb
  go_wp2
  go_ret
  exact ⟨rfl, Hw6.out⟩

set_option maxRecDepth 100000 in
set_option maxHeartbeats 3200000 in
theorem lawEarsOf (n0 : Int) (v1 : Value) (ls1 : List (List Int)) (ys : List Int) (w : World) (hv1 : ArgT w v1 ls1) (mp1 : ls1.length ≤ 9223372036854775807) (mr1 : ∀ j, (ls1.getD j []).length ≤ 9223372036854775807) (hys : ys.length ≤ 1048576)
    (hS : ls1.length ≤ 1048576 → (∀ j, (ls1.getD j []).length ≤ 1048576) → ∀ u1 lo1 hi1, ∀ w, OwnT w lo1 hi1 (.slice u1 ls1.length ls1.length) ls1 → hi1 ≤ w.heap.size → Calls Try.prog 24 #[.int .i64 n0, (.slice u1 ls1.length ls1.length)] w fun e w' => ∃ v, e = .returned (v) ∧ OwnI w' w.heap.size w'.heap.size v ys ∧ Below w.heap.size w w')
    (hI : ls1.length ≤ 1048576 → (∀ j, (ls1.getD j []).length ≤ 1048576) → ∀ u1 lo1 hi1, ∀ w, OwnT w lo1 hi1 (.slice u1 ls1.length ls1.length) ls1 → hi1 ≤ w.heap.size → Calls Try.prog 25 #[.int .i64 n0, (.slice u1 ls1.length ls1.length)] w fun e w' => ∃ v, e = .returned (v) ∧ OwnI w' w.heap.size w'.heap.size v ys ∧ Below w.heap.size w w') :
    Calls Try.prog 8 #[.int .i64 n0, v1] w fun e w' => e = .returned (.bool true) ∧ Below w.heap.size w w' := by
  have HV1 := Lib.hid hv1
  have MR1 := Lib.hid mr1
  obtain ⟨Aa1, ca1, rfl, -⟩ := id hv1
  have HS0 := Lib.hid hS
  have HI0 := Lib.hid hI
  clear hS hI hv1 mr1
  go_enter Try.func8, Try.ntmps8
  go_wp2_with fail
  (with_reducible refine (szTT _ ls1 1048576 _ HV1.out mp1 MR1.out (by omega) (by omega)).mono ?_)
  rintro e w' ⟨⟨r1, rfl, h⟩, hweq⟩
  subst hweq
  rcases h with h | ⟨h, hk1⟩
  · go_wp2
    go_ret
    exact ⟨rfl, Below.refl _ _⟩
  have hn1 : ¬ r1 < 0 := by omega
  have hl1 : ls1.length ≤ 1048576 := by omega
  have ht1 : tot ls1 ≤ 1048576 := by omega
  have HRW1 := Lib.hid (fun j => show (ls1.getD j []).length ≤ 1048576 from Nat.le_trans (row_tot ls1 j) ht1)
  have HRA1 := Lib.hid (fun j => show (ls1.getD j []).length ≤ 1099511627776 from Nat.le_trans (HRW1.out j) (by decide))
  have HK1 := Lib.hid hk1
  have HS := Lib.hid (HS0.out hl1 HRW1.out)
  have HI := Lib.hid (HI0.out hl1 HRW1.out)
  clear hk1 h
  have Hw0 := Lib.hid (Below.refl w'.heap.size w')
  go_wp2_with fail
  (with_reducible refine (toTA _ ls1 _ (HV1.out.keep Hw0.out) hl1 (fun j _ => HRW1.out j)).mono ?_)
  rintro e w1 ⟨A1, vs1, LO1, HI1, rfl, ho, hb⟩
  have z1 := hb.size
  have T1 := Lib.hid ho
  have Hw1 := Lib.hid (Hw0.out.trans (hb.mono Hw0.out.size))
  clear hb ho
  go_wp2_with fail
  (with_reducible refine (HS.out _ _ _ _ T1.out.toT (by omega)).mono ?_)
  rintro e w2 ⟨v2, rfl, ho, hb⟩
  have z2 := hb.size
  obtain ⟨A2, c2, rfl, -⟩ := id ho
  have W0 := Lib.hid ho
  have T1_2 := Lib.hid (T1.out.keep hb (by omega))
  have Hw2 := Lib.hid (Hw1.out.trans (hb.mono Hw1.out.size))
  clear hb ho
  go_wp2_with fail
  (with_reducible refine (toTA _ ls1 _ (HV1.out.keep Hw2.out) hl1 (fun j _ => HRW1.out j)).mono ?_)
  rintro e w3 ⟨A3, vs3, LO3, HI3, rfl, ho, hb⟩
  have z3 := hb.size
  have X1 := Lib.hid ho
  have W0_3 := Lib.hid (W0.out.keep hb (by omega))
  have Hw3 := Lib.hid (Hw2.out.trans (hb.mono Hw2.out.size))
  clear hb ho
  go_wp2_with fail
  (with_reducible refine (HI.out _ _ _ _ X1.out.toT (by omega)).mono ?_)
  rintro e w4 ⟨v4, rfl, ho, hb⟩
  have z4 := hb.size
  obtain ⟨A4, c4, rfl, -⟩ := id ho
  have G0 := Lib.hid ho
  have W0_4 := Lib.hid (W0_3.out.keep hb (by omega))
  have X1_4 := Lib.hid (X1.out.keep hb (by omega))
  have Hw4 := Lib.hid (Hw3.out.trans (hb.mono Hw3.out.size))
  clear hb ho
  go_wp2_with fail
  (with_reducible refine (eqI_same _ _ _ _ _ _ ys _ G0.out W0_4.out (by omega)).mono ?_)
  rintro e w5 ⟨rfl, hb⟩
  have z5 := hb.size
  have W0_5 := Lib.hid (W0_4.out.keep hb (by omega))
  have X1_5 := Lib.hid (X1_4.out.keep hb (by omega))
  have G0_5 := Lib.hid (G0.out.keep hb (by omega))
  have Hw5 := Lib.hid (Hw4.out.trans (hb.mono Hw4.out.size))
  clear hb
  go_wp2_with fail
  (with_reducible refine (toTA _ ls1 _ (HV1.out.keep Hw5.out) hl1 (fun j _ => HRW1.out j)).mono ?_)
  rintro e w6 ⟨A6, vs6, LO6, HI6, rfl, ho, hb⟩
  have z6 := hb.size
  have T1 := Lib.hid ho
  have W0_6 := Lib.hid (W0_5.out.keep hb (by omega))
  have X1_6 := Lib.hid (X1_5.out.keep hb (by omega))
  have G0_6 := Lib.hid (G0_5.out.keep hb (by omega))
  have Hw6 := Lib.hid (Hw5.out.trans (hb.mono Hw5.out.size))
  clear hb ho
  go_wp2_with fail
  (with_reducible refine (eqSS_same _ _ _ _ _ _ ls1 _ X1_6.out.toT T1.out.toT (by omega) (by omega) (by omega) HRA1.out).mono ?_)
  rintro e w7 ⟨rfl, hb⟩
  have z7 := hb.size
  have W0_7 := Lib.hid (W0_6.out.keep hb (by omega))
  have X1_7 := Lib.hid (X1_6.out.keep hb (by omega))
  have G0_7 := Lib.hid (G0_6.out.keep hb (by omega))
  have T1_7 := Lib.hid (T1.out.keep hb (by omega))
  have Hw7 := Lib.hid (Hw6.out.trans (hb.mono Hw6.out.size))
  clear hb
  have e8 : ¬ ((1 : Int) + (tot ls1 : Int) < 0) := by omega
  go_wp2_with fail
  (with_reducible refine (markTA _ _ _ _ _ _ ls1 1 _ X1_7.out (by omega) (by omega) (by omega) (by omega)).mono ?_)
  rintro e w8 ⟨rfl, hb⟩
  have z8 := hb.size
  have W0_8 := Lib.hid (W0_7.out.apart hb (by omega))
  have G0_8 := Lib.hid (G0_7.out.apart hb (by omega))
  have Hw8 := Lib.hid (Hw7.out.trans (hb.below (by omega)))
  clear hb
  go_wp2_with fail
  (with_reducible refine (eqI_same _ _ _ _ _ _ ys _ G0_8.out W0_8.out (by omega)).mono ?_)
  rintro e w9 ⟨rfl, hb⟩
  have z9 := hb.size
  have W0_9 := Lib.hid (W0_8.out.keep hb (by omega))
  have G0_9 := Lib.hid (G0_8.out.keep hb (by omega))
  have Hw9 := Lib.hid (Hw8.out.trans (hb.mono Hw8.out.size))
  clear hb
  go_wp2_with fail
  (with_reducible refine (markO _ _ _ ys 1 _ G0_9.out (by omega) (by omega) (by omega)).mono ?_)
  rintro e w10 ⟨rfl, ho, hb⟩
  have z10 := hb.size
  have G0_m := Lib.hid ho
  have W0_10 := Lib.hid (W0_9.out.apart hb (by omega))
  have Hw10 := Lib.hid (Hw9.out.trans (hb.below (by omega)))
  clear hb ho
  have e1 : (1 : Int) + (ys.length : Int) = (1 : Int) + (ys.length : Int) := rfl
  go_wp2_with fail
  (with_reducible refine (heldI _ _ _ ys.length 1 _ G0_m.out (by omega) (by omega) (by omega)).mono ?_)
  rintro e w' ⟨rfl, hweq⟩
  subst hweq
  go_wp2_with fail
  (with_reducible refine (toTA _ ls1 _ (HV1.out.keep Hw10.out) hl1 (fun j _ => HRW1.out j)).mono ?_)
  rintro e w11 ⟨A11, vs11, LO11, HI11, rfl, ho, hb⟩
  have z11 := hb.size
  have T1 := Lib.hid ho
  have W0_11 := Lib.hid (W0_10.out.keep hb (by omega))
  have G0_11 := Lib.hid (G0_m.out.keep hb (by omega))
  have Hw11 := Lib.hid (Hw10.out.trans (hb.mono Hw10.out.size))
  clear hb ho
  go_wp2_with fail
  (with_reducible refine (HI.out _ _ _ _ T1.out.toT (by omega)).mono ?_)
  rintro e w12 ⟨v12, rfl, ho, hb⟩
  have z12 := hb.size
  obtain ⟨A12, c12, rfl, -⟩ := id ho
  have H0 := Lib.hid ho
  have W0_12 := Lib.hid (W0_11.out.keep hb (by omega))
  have G0_12 := Lib.hid (G0_11.out.keep hb (by omega))
  have T1_12 := Lib.hid (T1.out.keep hb (by omega))
  have Hw12 := Lib.hid (Hw11.out.trans (hb.mono Hw11.out.size))
  clear hb ho
  go_wp2_with fail
  (with_reducible refine (eqI_same _ _ _ _ _ _ ys _ H0.out W0_12.out (by omega)).mono ?_)
  rintro e w13 ⟨rfl, hb⟩
  have z13 := hb.size
  have W0_13 := Lib.hid (W0_12.out.keep hb (by omega))
  have G0_13 := Lib.hid (G0_12.out.keep hb (by omega))
  have H0_13 := Lib.hid (H0.out.keep hb (by omega))
  have Hw13 := Lib.hid (Hw12.out.trans (hb.mono Hw12.out.size))
  clear hb
  go_wp2_with fail
  (with_reducible refine (heldI _ _ _ ys.length 1 _ G0_13.out (by omega) (by omega) (by omega)).mono ?_)
  rintro e w' ⟨rfl, hweq⟩
  subst hweq
  go_wp2
  go_ret
  exact ⟨rfl, Hw13.out⟩

end Go.Proofs.Ytkpnfonedfomaaa
