/- The walks of exact laws over tables that came in (written by program). -/
import Derived.Test.YtefbbkogfoongaaTabC11
import Derived.Test.YtefbbkogfoongaaTblKZ
namespace Go.Proofs.Ytefbbkogfoongaa
open Go.ChangeShapes Go.WideShapes Go.ChangeAt Go.RowKit
set_option linter.unusedVariables false

set_option maxRecDepth 100000 in
set_option maxHeartbeats 3200000 in
theorem lawIsTableau (v0 : Value) (ls0 : List (List Int)) (R0 : Bool) (w : World) (hv0 : ArgT w v0 ls0) (mp0 : ls0.length ≤ 9223372036854775807) (mr0 : ∀ j, (ls0.getD j []).length ≤ 9223372036854775807)
    (hS : ls0.length ≤ 1048576 → (∀ j, (ls0.getD j []).length ≤ 1048576) → ∀ u0 lo0 hi0, ∀ w, OwnT w lo0 hi0 (.slice u0 ls0.length ls0.length) ls0 → hi0 ≤ w.heap.size → Calls Try.prog 9 #[(.slice u0 ls0.length ls0.length)] w fun e w' => e = .returned (.bool R0) ∧ Below w.heap.size w w')
    (hI : ls0.length ≤ 1048576 → (∀ j, (ls0.getD j []).length ≤ 1048576) → ∀ u0 lo0 hi0, ∀ w, OwnT w lo0 hi0 (.slice u0 ls0.length ls0.length) ls0 → hi0 ≤ w.heap.size → Calls Try.prog 11 #[(.slice u0 ls0.length ls0.length)] w fun e w' => e = .returned (.bool R0) ∧ Below w.heap.size w w') :
    Calls Try.prog 3 #[v0] w fun e w' => e = .returned (.bool true) ∧ Below w.heap.size w w' := by
  have HV0 := Lib.hid hv0
  have MR0 := Lib.hid mr0
  obtain ⟨Aa0, ca0, rfl, -⟩ := id hv0
  have HS0 := Lib.hid hS
  have HI0 := Lib.hid hI
  clear hS hI hv0 mr0
  go_enter Try.func3, Try.ntmps3
  go_wp2_with fail
  (with_reducible refine (szTT _ ls0 1048576 _ HV0.out mp0 MR0.out (by omega) (by omega)).mono ?_)
  rintro e w' ⟨⟨r0, rfl, h⟩, hweq⟩
  subst hweq
  rcases h with h | ⟨h, hk0⟩
  · go_wp2
    go_ret
    exact ⟨rfl, Below.refl _ _⟩
  have hn0 : ¬ r0 < 0 := by omega
  have hl0 : ls0.length ≤ 1048576 := by omega
  have ht0 : tot ls0 ≤ 1048576 := by omega
  have HRW0 := Lib.hid (fun j => show (ls0.getD j []).length ≤ 1048576 from Nat.le_trans (row_tot ls0 j) ht0)
  have HRA0 := Lib.hid (fun j => show (ls0.getD j []).length ≤ 1099511627776 from Nat.le_trans (HRW0.out j) (by decide))
  have HK0 := Lib.hid hk0
  have HS := Lib.hid (HS0.out hl0 HRW0.out)
  have HI := Lib.hid (HI0.out hl0 HRW0.out)
  clear hk0 h
  have hr0 : (R0 != R0) = false := by simp
  have hq0 : (R0 == R0) = true := by simp
  have Hw0 := Lib.hid (Below.refl w'.heap.size w')
  go_wp2_with fail
  (with_reducible refine (toTA _ ls0 _ (HV0.out.keep Hw0.out) hl0 (fun j _ => HRW0.out j)).mono ?_)
  rintro e w1 ⟨A1, vs1, LO1, HI1, rfl, ho, hb⟩
  have z1 := hb.size
  have T0 := Lib.hid ho
  have Hw1 := Lib.hid (Hw0.out.trans (hb.mono Hw0.out.size))
  clear hb ho
  go_wp2_with fail
  (with_reducible refine (HS.out _ _ _ _ T0.out.toT (by omega)).mono ?_)
  rintro e w2 ⟨rfl, hb⟩
  have z2 := hb.size
  have T0_2 := Lib.hid (T0.out.keep hb (by omega))
  have Hw2 := Lib.hid (Hw1.out.trans (hb.mono Hw1.out.size))
  clear hb
  go_wp2_with fail
  (with_reducible refine (toTA _ ls0 _ (HV0.out.keep Hw2.out) hl0 (fun j _ => HRW0.out j)).mono ?_)
  rintro e w3 ⟨A3, vs3, LO3, HI3, rfl, ho, hb⟩
  have z3 := hb.size
  have X0 := Lib.hid ho
  have Hw3 := Lib.hid (Hw2.out.trans (hb.mono Hw2.out.size))
  clear hb ho
  go_wp2_with fail
  (with_reducible refine (HI.out _ _ _ _ X0.out.toT (by omega)).mono ?_)
  rintro e w4 ⟨rfl, hb⟩
  have z4 := hb.size
  have X0_4 := Lib.hid (X0.out.keep hb (by omega))
  have Hw4 := Lib.hid (Hw3.out.trans (hb.mono Hw3.out.size))
  clear hb
  go_wp2_with fail
  (with_reducible refine (toTA _ ls0 _ (HV0.out.keep Hw4.out) hl0 (fun j _ => HRW0.out j)).mono ?_)
  rintro e w5 ⟨A5, vs5, LO5, HI5, rfl, ho, hb⟩
  have z5 := hb.size
  have T0 := Lib.hid ho
  have X0_5 := Lib.hid (X0_4.out.keep hb (by omega))
  have Hw5 := Lib.hid (Hw4.out.trans (hb.mono Hw4.out.size))
  clear hb ho
  go_wp2_with fail
  (with_reducible refine (eqSS_same _ _ _ _ _ _ ls0 _ X0_5.out.toT T0.out.toT (by omega) (by omega) (by omega) HRA0.out).mono ?_)
  rintro e w6 ⟨rfl, hb⟩
  have z6 := hb.size
  have X0_6 := Lib.hid (X0_5.out.keep hb (by omega))
  have T0_6 := Lib.hid (T0.out.keep hb (by omega))
  have Hw6 := Lib.hid (Hw5.out.trans (hb.mono Hw5.out.size))
  clear hb
  go_wp2
  go_ret
  exact ⟨rfl, Hw6.out⟩

set_option maxRecDepth 100000 in
set_option maxHeartbeats 3200000 in
theorem lawPathOfTableau (v0 : Value) (ls0 : List (List Int)) (R0 : ByteArray) (R1 : Bool) (w : World) (hv0 : ArgT w v0 ls0) (mp0 : ls0.length ≤ 9223372036854775807) (mr0 : ∀ j, (ls0.getD j []).length ≤ 9223372036854775807)
    (hS : ls0.length ≤ 1048576 → (∀ j, (ls0.getD j []).length ≤ 1048576) → ∀ u0 lo0 hi0, ∀ w, OwnT w lo0 hi0 (.slice u0 ls0.length ls0.length) ls0 → hi0 ≤ w.heap.size → Calls Try.prog 13 #[(.slice u0 ls0.length ls0.length)] w fun e w' => e = .returned (.tuple #[.string R0, .bool R1]) ∧ Below w.heap.size w w')
    (hI : ls0.length ≤ 1048576 → (∀ j, (ls0.getD j []).length ≤ 1048576) → ∀ u0 lo0 hi0, ∀ w, OwnT w lo0 hi0 (.slice u0 ls0.length ls0.length) ls0 → hi0 ≤ w.heap.size → Calls Try.prog 14 #[(.slice u0 ls0.length ls0.length)] w fun e w' => e = .returned (.tuple #[.string R0, .bool R1]) ∧ Below w.heap.size w w') :
    Calls Try.prog 4 #[v0] w fun e w' => e = .returned (.bool true) ∧ Below w.heap.size w w' := by
  have HV0 := Lib.hid hv0
  have MR0 := Lib.hid mr0
  obtain ⟨Aa0, ca0, rfl, -⟩ := id hv0
  have HS0 := Lib.hid hS
  have HI0 := Lib.hid hI
  clear hS hI hv0 mr0
  go_enter Try.func4, Try.ntmps4
  go_wp2_with fail
  (with_reducible refine (szTT _ ls0 1048576 _ HV0.out mp0 MR0.out (by omega) (by omega)).mono ?_)
  rintro e w' ⟨⟨r0, rfl, h⟩, hweq⟩
  subst hweq
  rcases h with h | ⟨h, hk0⟩
  · go_wp2
    go_ret
    exact ⟨rfl, Below.refl _ _⟩
  have hn0 : ¬ r0 < 0 := by omega
  have hl0 : ls0.length ≤ 1048576 := by omega
  have ht0 : tot ls0 ≤ 1048576 := by omega
  have HRW0 := Lib.hid (fun j => show (ls0.getD j []).length ≤ 1048576 from Nat.le_trans (row_tot ls0 j) ht0)
  have HRA0 := Lib.hid (fun j => show (ls0.getD j []).length ≤ 1099511627776 from Nat.le_trans (HRW0.out j) (by decide))
  have HK0 := Lib.hid hk0
  have HS := Lib.hid (HS0.out hl0 HRW0.out)
  have HI := Lib.hid (HI0.out hl0 HRW0.out)
  clear hk0 h
  have hr0 : (R0.toList != R0.toList) = false := by simp
  have hq0 : (R0.toList == R0.toList) = true := by simp
  have hr1 : (R1 != R1) = false := by simp
  have hq1 : (R1 == R1) = true := by simp
  have Hw0 := Lib.hid (Below.refl w'.heap.size w')
  go_wp2_with fail
  (with_reducible refine (toTA _ ls0 _ (HV0.out.keep Hw0.out) hl0 (fun j _ => HRW0.out j)).mono ?_)
  rintro e w1 ⟨A1, vs1, LO1, HI1, rfl, ho, hb⟩
  have z1 := hb.size
  have T0 := Lib.hid ho
  have Hw1 := Lib.hid (Hw0.out.trans (hb.mono Hw0.out.size))
  clear hb ho
  go_wp2_with fail
  (with_reducible refine (HS.out _ _ _ _ T0.out.toT (by omega)).mono ?_)
  rintro e w2 ⟨rfl, hb⟩
  have z2 := hb.size
  have T0_2 := Lib.hid (T0.out.keep hb (by omega))
  have Hw2 := Lib.hid (Hw1.out.trans (hb.mono Hw1.out.size))
  clear hb
  go_wp2_with fail
  (with_reducible refine (toTA _ ls0 _ (HV0.out.keep Hw2.out) hl0 (fun j _ => HRW0.out j)).mono ?_)
  rintro e w3 ⟨A3, vs3, LO3, HI3, rfl, ho, hb⟩
  have z3 := hb.size
  have X0 := Lib.hid ho
  have Hw3 := Lib.hid (Hw2.out.trans (hb.mono Hw2.out.size))
  clear hb ho
  go_wp2_with fail
  (with_reducible refine (HI.out _ _ _ _ X0.out.toT (by omega)).mono ?_)
  rintro e w4 ⟨rfl, hb⟩
  have z4 := hb.size
  have X0_4 := Lib.hid (X0.out.keep hb (by omega))
  have Hw4 := Lib.hid (Hw3.out.trans (hb.mono Hw3.out.size))
  clear hb
  go_wp2_with fail
  (with_reducible refine (toTA _ ls0 _ (HV0.out.keep Hw4.out) hl0 (fun j _ => HRW0.out j)).mono ?_)
  rintro e w5 ⟨A5, vs5, LO5, HI5, rfl, ho, hb⟩
  have z5 := hb.size
  have T0 := Lib.hid ho
  have X0_5 := Lib.hid (X0_4.out.keep hb (by omega))
  have Hw5 := Lib.hid (Hw4.out.trans (hb.mono Hw4.out.size))
  clear hb ho
  go_wp2_with fail
  (with_reducible refine (eqSS_same _ _ _ _ _ _ ls0 _ X0_5.out.toT T0.out.toT (by omega) (by omega) (by omega) HRA0.out).mono ?_)
  rintro e w6 ⟨rfl, hb⟩
  have z6 := hb.size
  have X0_6 := Lib.hid (X0_5.out.keep hb (by omega))
  have T0_6 := Lib.hid (T0.out.keep hb (by omega))
  have Hw6 := Lib.hid (Hw5.out.trans (hb.mono Hw5.out.size))
  clear hb
  go_wp2
  go_ret
  exact ⟨rfl, Hw6.out⟩

set_option maxRecDepth 100000 in
set_option maxHeartbeats 3200000 in
theorem lawDescentsOfTableau (v0 : Value) (ls0 : List (List Int)) (ys : List Int) (w : World) (hv0 : ArgT w v0 ls0) (mp0 : ls0.length ≤ 9223372036854775807) (mr0 : ∀ j, (ls0.getD j []).length ≤ 9223372036854775807) (hys : ys.length ≤ 1048576)
    (hS : ls0.length ≤ 1048576 → (∀ j, (ls0.getD j []).length ≤ 1048576) → ∀ u0 lo0 hi0, ∀ w, OwnT w lo0 hi0 (.slice u0 ls0.length ls0.length) ls0 → hi0 ≤ w.heap.size → Calls Try.prog 21 #[(.slice u0 ls0.length ls0.length)] w fun e w' => ∃ v, e = .returned (v) ∧ OwnI w' w.heap.size w'.heap.size v ys ∧ Below w.heap.size w w')
    (hI : ls0.length ≤ 1048576 → (∀ j, (ls0.getD j []).length ≤ 1048576) → ∀ u0 lo0 hi0, ∀ w, OwnT w lo0 hi0 (.slice u0 ls0.length ls0.length) ls0 → hi0 ≤ w.heap.size → Calls Try.prog 22 #[(.slice u0 ls0.length ls0.length)] w fun e w' => ∃ v, e = .returned (v) ∧ OwnI w' w.heap.size w'.heap.size v ys ∧ Below w.heap.size w w') :
    Calls Try.prog 7 #[v0] w fun e w' => e = .returned (.bool true) ∧ Below w.heap.size w w' := by
  have HV0 := Lib.hid hv0
  have MR0 := Lib.hid mr0
  obtain ⟨Aa0, ca0, rfl, -⟩ := id hv0
  have HS0 := Lib.hid hS
  have HI0 := Lib.hid hI
  clear hS hI hv0 mr0
  go_enter Try.func7, Try.ntmps7
  go_wp2_with fail
  (with_reducible refine (szTT _ ls0 1048576 _ HV0.out mp0 MR0.out (by omega) (by omega)).mono ?_)
  rintro e w' ⟨⟨r0, rfl, h⟩, hweq⟩
  subst hweq
  rcases h with h | ⟨h, hk0⟩
  · go_wp2
    go_ret
    exact ⟨rfl, Below.refl _ _⟩
  have hn0 : ¬ r0 < 0 := by omega
  have hl0 : ls0.length ≤ 1048576 := by omega
  have ht0 : tot ls0 ≤ 1048576 := by omega
  have HRW0 := Lib.hid (fun j => show (ls0.getD j []).length ≤ 1048576 from Nat.le_trans (row_tot ls0 j) ht0)
  have HRA0 := Lib.hid (fun j => show (ls0.getD j []).length ≤ 1099511627776 from Nat.le_trans (HRW0.out j) (by decide))
  have HK0 := Lib.hid hk0
  have HS := Lib.hid (HS0.out hl0 HRW0.out)
  have HI := Lib.hid (HI0.out hl0 HRW0.out)
  clear hk0 h
  have Hw0 := Lib.hid (Below.refl w'.heap.size w')
  go_wp2_with fail
  (with_reducible refine (toTA _ ls0 _ (HV0.out.keep Hw0.out) hl0 (fun j _ => HRW0.out j)).mono ?_)
  rintro e w1 ⟨A1, vs1, LO1, HI1, rfl, ho, hb⟩
  have z1 := hb.size
  have T0 := Lib.hid ho
  have Hw1 := Lib.hid (Hw0.out.trans (hb.mono Hw0.out.size))
  clear hb ho
  go_wp2_with fail
  (with_reducible refine (HS.out _ _ _ _ T0.out.toT (by omega)).mono ?_)
  rintro e w2 ⟨v2, rfl, ho, hb⟩
  have z2 := hb.size
  obtain ⟨A2, c2, rfl, -⟩ := id ho
  have W0 := Lib.hid ho
  have T0_2 := Lib.hid (T0.out.keep hb (by omega))
  have Hw2 := Lib.hid (Hw1.out.trans (hb.mono Hw1.out.size))
  clear hb ho
  go_wp2_with fail
  (with_reducible refine (toTA _ ls0 _ (HV0.out.keep Hw2.out) hl0 (fun j _ => HRW0.out j)).mono ?_)
  rintro e w3 ⟨A3, vs3, LO3, HI3, rfl, ho, hb⟩
  have z3 := hb.size
  have X0 := Lib.hid ho
  have W0_3 := Lib.hid (W0.out.keep hb (by omega))
  have Hw3 := Lib.hid (Hw2.out.trans (hb.mono Hw2.out.size))
  clear hb ho
  go_wp2_with fail
  (with_reducible refine (HI.out _ _ _ _ X0.out.toT (by omega)).mono ?_)
  rintro e w4 ⟨v4, rfl, ho, hb⟩
  have z4 := hb.size
  obtain ⟨A4, c4, rfl, -⟩ := id ho
  have G0 := Lib.hid ho
  have W0_4 := Lib.hid (W0_3.out.keep hb (by omega))
  have X0_4 := Lib.hid (X0.out.keep hb (by omega))
  have Hw4 := Lib.hid (Hw3.out.trans (hb.mono Hw3.out.size))
  clear hb ho
  go_wp2_with fail
  (with_reducible refine (eqI_same _ _ _ _ _ _ ys _ G0.out W0_4.out (by omega)).mono ?_)
  rintro e w5 ⟨rfl, hb⟩
  have z5 := hb.size
  have W0_5 := Lib.hid (W0_4.out.keep hb (by omega))
  have X0_5 := Lib.hid (X0_4.out.keep hb (by omega))
  have G0_5 := Lib.hid (G0.out.keep hb (by omega))
  have Hw5 := Lib.hid (Hw4.out.trans (hb.mono Hw4.out.size))
  clear hb
  go_wp2_with fail
  (with_reducible refine (toTA _ ls0 _ (HV0.out.keep Hw5.out) hl0 (fun j _ => HRW0.out j)).mono ?_)
  rintro e w6 ⟨A6, vs6, LO6, HI6, rfl, ho, hb⟩
  have z6 := hb.size
  have T0 := Lib.hid ho
  have W0_6 := Lib.hid (W0_5.out.keep hb (by omega))
  have X0_6 := Lib.hid (X0_5.out.keep hb (by omega))
  have G0_6 := Lib.hid (G0_5.out.keep hb (by omega))
  have Hw6 := Lib.hid (Hw5.out.trans (hb.mono Hw5.out.size))
  clear hb ho
  go_wp2_with fail
  (with_reducible refine (eqSS_same _ _ _ _ _ _ ls0 _ X0_6.out.toT T0.out.toT (by omega) (by omega) (by omega) HRA0.out).mono ?_)
  rintro e w7 ⟨rfl, hb⟩
  have z7 := hb.size
  have W0_7 := Lib.hid (W0_6.out.keep hb (by omega))
  have X0_7 := Lib.hid (X0_6.out.keep hb (by omega))
  have G0_7 := Lib.hid (G0_6.out.keep hb (by omega))
  have T0_7 := Lib.hid (T0.out.keep hb (by omega))
  have Hw7 := Lib.hid (Hw6.out.trans (hb.mono Hw6.out.size))
  clear hb
  have e8 : ¬ ((1 : Int) + (tot ls0 : Int) < 0) := by omega
  go_wp2_with fail
  (with_reducible refine (markTA _ _ _ _ _ _ ls0 1 _ X0_7.out (by omega) (by omega) (by omega) (by omega)).mono ?_)
  rintro e w8 ⟨rfl, hb⟩
  have z8 := hb.size
  have W0_8 := Lib.hid (W0_7.out.apart hb (by omega))
  have G0_8 := Lib.hid (G0_7.out.apart hb (by omega))
  have Hw8 := Lib.hid (Hw7.out.trans (hb.below (by omega)))
  clear hb
  go_wp2_with fail
  (with_reducible refine (eqI_same _ _ _ _ _ _ ys _ G0_8.out W0_8.out (by omega)).mono ?_)
  rintro e w9 ⟨rfl, hb⟩
  have z9 := hb.size
  have W0_9 := Lib.hid (W0_8.out.keep hb (by omega))
  have G0_9 := Lib.hid (G0_8.out.keep hb (by omega))
  have Hw9 := Lib.hid (Hw8.out.trans (hb.mono Hw8.out.size))
  clear hb
  go_wp2_with fail
  (with_reducible refine (markO _ _ _ ys 1 _ G0_9.out (by omega) (by omega) (by omega)).mono ?_)
  rintro e w10 ⟨rfl, ho, hb⟩
  have z10 := hb.size
  have G0_m := Lib.hid ho
  have W0_10 := Lib.hid (W0_9.out.apart hb (by omega))
  have Hw10 := Lib.hid (Hw9.out.trans (hb.below (by omega)))
  clear hb ho
  have e1 : (1 : Int) + (ys.length : Int) = (1 : Int) + (ys.length : Int) := rfl
  go_wp2_with fail
  (with_reducible refine (heldI _ _ _ ys.length 1 _ G0_m.out (by omega) (by omega) (by omega)).mono ?_)
  rintro e w' ⟨rfl, hweq⟩
  subst hweq
  go_wp2_with fail
  (with_reducible refine (toTA _ ls0 _ (HV0.out.keep Hw10.out) hl0 (fun j _ => HRW0.out j)).mono ?_)
  rintro e w11 ⟨A11, vs11, LO11, HI11, rfl, ho, hb⟩
  have z11 := hb.size
  have T0 := Lib.hid ho
  have W0_11 := Lib.hid (W0_10.out.keep hb (by omega))
  have G0_11 := Lib.hid (G0_m.out.keep hb (by omega))
  have Hw11 := Lib.hid (Hw10.out.trans (hb.mono Hw10.out.size))
  clear hb ho
  go_wp2_with fail
  (with_reducible refine (HI.out _ _ _ _ T0.out.toT (by omega)).mono ?_)
  rintro e w12 ⟨v12, rfl, ho, hb⟩
  have z12 := hb.size
  obtain ⟨A12, c12, rfl, -⟩ := id ho
  have H0 := Lib.hid ho
  have W0_12 := Lib.hid (W0_11.out.keep hb (by omega))
  have G0_12 := Lib.hid (G0_11.out.keep hb (by omega))
  have T0_12 := Lib.hid (T0.out.keep hb (by omega))
  have Hw12 := Lib.hid (Hw11.out.trans (hb.mono Hw11.out.size))
  clear hb ho
  go_wp2_with fail
  (with_reducible refine (eqI_same _ _ _ _ _ _ ys _ H0.out W0_12.out (by omega)).mono ?_)
  rintro e w13 ⟨rfl, hb⟩
  have z13 := hb.size
  have W0_13 := Lib.hid (W0_12.out.keep hb (by omega))
  have G0_13 := Lib.hid (G0_12.out.keep hb (by omega))
  have H0_13 := Lib.hid (H0.out.keep hb (by omega))
  have Hw13 := Lib.hid (Hw12.out.trans (hb.mono Hw12.out.size))
  clear hb
  go_wp2_with fail
  (with_reducible refine (heldI _ _ _ ys.length 1 _ G0_13.out (by omega) (by omega) (by omega)).mono ?_)
  rintro e w' ⟨rfl, hweq⟩
  subst hweq
  go_wp2
  go_ret
  exact ⟨rfl, Hw13.out⟩

set_option maxRecDepth 100000 in
set_option maxHeartbeats 3200000 in
theorem lawEvacuateTableau (v0 : Value) (ls0 : List (List Int)) (zs : List (List Int)) (R1 : Bool) (w : World) (hv0 : ArgT w v0 ls0) (mp0 : ls0.length ≤ 9223372036854775807) (mr0 : ∀ j, (ls0.getD j []).length ≤ 9223372036854775807) (hll : zs.length ≤ 1048576) (htt : tot zs ≤ 1048576)
    (hS : ls0.length ≤ 1048576 → (∀ j, (ls0.getD j []).length ≤ 1048576) → ∀ u0 lo0 hi0, ∀ w, OwnT w lo0 hi0 (.slice u0 ls0.length ls0.length) ls0 → hi0 ≤ w.heap.size → Calls Try.prog 19 #[(.slice u0 ls0.length ls0.length)] w fun e w' => ∃ v vs, e = .returned (.tuple #[v, .bool R1]) ∧ Tb w' w.heap.size v vs zs ∧ Below w.heap.size w w')
    (hI : ls0.length ≤ 1048576 → (∀ j, (ls0.getD j []).length ≤ 1048576) → ∀ u0 lo0 hi0, ∀ w, OwnT w lo0 hi0 (.slice u0 ls0.length ls0.length) ls0 → hi0 ≤ w.heap.size → Calls Try.prog 20 #[(.slice u0 ls0.length ls0.length)] w fun e w' => ∃ v vs, e = .returned (.tuple #[v, .bool R1]) ∧ Tb w' w.heap.size v vs zs ∧ Below w.heap.size w w') :
    Calls Try.prog 6 #[v0] w fun e w' => e = .returned (.bool true) ∧ Below w.heap.size w w' := by
  have HV0 := Lib.hid hv0
  have MR0 := Lib.hid mr0
  obtain ⟨Aa0, ca0, rfl, -⟩ := id hv0
  have HS0 := Lib.hid hS
  have HI0 := Lib.hid hI
  clear hS hI hv0 mr0
  go_enter Try.func6, Try.ntmps6
  go_wp2_with fail
  (with_reducible refine (szTT _ ls0 1048576 _ HV0.out mp0 MR0.out (by omega) (by omega)).mono ?_)
  rintro e w' ⟨⟨r0, rfl, h⟩, hweq⟩
  subst hweq
  rcases h with h | ⟨h, hk0⟩
  · go_wp2
    go_ret
    exact ⟨rfl, Below.refl _ _⟩
  have hn0 : ¬ r0 < 0 := by omega
  have hl0 : ls0.length ≤ 1048576 := by omega
  have ht0 : tot ls0 ≤ 1048576 := by omega
  have HRW0 := Lib.hid (fun j => show (ls0.getD j []).length ≤ 1048576 from Nat.le_trans (row_tot ls0 j) ht0)
  have HRA0 := Lib.hid (fun j => show (ls0.getD j []).length ≤ 1099511627776 from Nat.le_trans (HRW0.out j) (by decide))
  have HK0 := Lib.hid hk0
  have HS := Lib.hid (HS0.out hl0 HRW0.out)
  have HI := Lib.hid (HI0.out hl0 HRW0.out)
  clear hk0 h
  have hr1 : (R1 != R1) = false := by simp
  have hq1 : (R1 == R1) = true := by simp
  have hq0 : ¬ ((1 : Int) + (tot zs : Int) < 0) := by omega
  have HZZ := Lib.hid (fun j => show (zs.getD j []).length ≤ 1099511627776 from Nat.le_trans (row_tot zs j) (by omega))
  have Hw0 := Lib.hid (Below.refl w'.heap.size w')
  go_wp2_with fail
  (with_reducible refine (toTA _ ls0 _ (HV0.out.keep Hw0.out) hl0 (fun j _ => HRW0.out j)).mono ?_)
  rintro e w1 ⟨A1, vs1, LO1, HI1, rfl, ho, hb⟩
  have z1 := hb.size
  have T0 := Lib.hid ho
  have Hw1 := Lib.hid (Hw0.out.trans (hb.mono Hw0.out.size))
  clear hb ho
  go_wp2_with fail
  (with_reducible refine (HS.out _ _ _ _ T0.out.toT (by omega)).mono ?_)
  rintro e w2 ⟨v2, vs2, rfl, ho, hb⟩
  have z2 := hb.size
  obtain ⟨A2, c2, rfl⟩ := ho.form
  have W0 := Lib.hid (TbH.of ho)
  have T0_2 := Lib.hid (T0.out.keep hb (by omega))
  have Hw2 := Lib.hid (Hw1.out.trans (hb.mono Hw1.out.size))
  clear hb ho
  go_wp2_with fail
  (with_reducible refine (toTA _ ls0 _ (HV0.out.keep Hw2.out) hl0 (fun j _ => HRW0.out j)).mono ?_)
  rintro e w3 ⟨A3, vs3, LO3, HI3, rfl, ho, hb⟩
  have z3 := hb.size
  have X0 := Lib.hid ho
  have W0_3 := Lib.hid (W0.out.keep hb (by omega))
  have Hw3 := Lib.hid (Hw2.out.trans (hb.mono Hw2.out.size))
  clear hb ho
  go_wp2_with fail
  (with_reducible refine (HI.out _ _ _ _ X0.out.toT (by omega)).mono ?_)
  rintro e w4 ⟨v4, vs4, rfl, ho, hb⟩
  have z4 := hb.size
  obtain ⟨A4, c4, rfl⟩ := ho.form
  have G0 := Lib.hid (TbH.of ho)
  have W0_4 := Lib.hid (W0_3.out.keep hb (by omega))
  have X0_4 := Lib.hid (X0.out.keep hb (by omega))
  have Hw4 := Lib.hid (Hw3.out.trans (hb.mono Hw3.out.size))
  clear hb ho
  go_wp2_with fail
  (with_reducible refine (eqSS_same _ _ _ _ _ _ zs _ G0.out.toT W0_4.out.toT (by omega) (by omega) (by omega) HZZ.out).mono ?_)
  rintro e w5 ⟨rfl, hb⟩
  have z5 := hb.size
  have W0_5 := Lib.hid (W0_4.out.keep hb (by omega))
  have X0_5 := Lib.hid (X0_4.out.keep hb (by omega))
  have G0_5 := Lib.hid (G0.out.keep hb (by omega))
  have Hw5 := Lib.hid (Hw4.out.trans (hb.mono Hw4.out.size))
  clear hb
  go_wp2_with fail
  (with_reducible refine (toTA _ ls0 _ (HV0.out.keep Hw5.out) hl0 (fun j _ => HRW0.out j)).mono ?_)
  rintro e w6 ⟨A6, vs6, LO6, HI6, rfl, ho, hb⟩
  have z6 := hb.size
  have T0 := Lib.hid ho
  have W0_6 := Lib.hid (W0_5.out.keep hb (by omega))
  have X0_6 := Lib.hid (X0_5.out.keep hb (by omega))
  have G0_6 := Lib.hid (G0_5.out.keep hb (by omega))
  have Hw6 := Lib.hid (Hw5.out.trans (hb.mono Hw5.out.size))
  clear hb ho
  go_wp2_with fail
  (with_reducible refine (eqSS_same _ _ _ _ _ _ ls0 _ X0_6.out.toT T0.out.toT (by omega) (by omega) (by omega) HRA0.out).mono ?_)
  rintro e w7 ⟨rfl, hb⟩
  have z7 := hb.size
  have W0_7 := Lib.hid (W0_6.out.keep hb (by omega))
  have X0_7 := Lib.hid (X0_6.out.keep hb (by omega))
  have G0_7 := Lib.hid (G0_6.out.keep hb (by omega))
  have T0_7 := Lib.hid (T0.out.keep hb (by omega))
  have Hw7 := Lib.hid (Hw6.out.trans (hb.mono Hw6.out.size))
  clear hb
  have e8 : ¬ ((1 : Int) + (tot ls0 : Int) < 0) := by omega
  go_wp2_with fail
  (with_reducible refine (markTA _ _ _ _ _ _ ls0 1 _ X0_7.out (by omega) (by omega) (by omega) (by omega)).mono ?_)
  rintro e w8 ⟨rfl, hb⟩
  have z8 := hb.size
  have W0_8 := Lib.hid (W0_7.out.apart hb (by omega))
  have G0_8 := Lib.hid (G0_7.out.apart hb (by omega))
  have Hw8 := Lib.hid (Hw7.out.trans (hb.below (by omega)))
  clear hb
  go_wp2_with fail
  (with_reducible refine (eqSS_same _ _ _ _ _ _ zs _ G0_8.out.toT W0_8.out.toT (by omega) (by omega) (by omega) HZZ.out).mono ?_)
  rintro e w9 ⟨rfl, hb⟩
  have z9 := hb.size
  have W0_9 := Lib.hid (W0_8.out.keep hb (by omega))
  have G0_9 := Lib.hid (G0_8.out.keep hb (by omega))
  have Hw9 := Lib.hid (Hw8.out.trans (hb.mono Hw8.out.size))
  clear hb
  go_wp2_with fail
  (with_reducible refine (markSS _ _ _ zs 1 _ G0_9.out.tb (by omega) (by omega) (by omega) (by omega) (by omega)).mono ?_)
  rintro e w10 ⟨rfl, ho, hb⟩
  have z10 := hb.size
  have G0_m := Lib.hid ho
  have W0_10 := Lib.hid (W0_9.out.keep hb (by omega))
  have Hw10 := Lib.hid (Hw9.out.trans (hb.mono (by omega)))
  clear hb ho
  have e1 : (1 : Int) + (tot zs : Int) = (1 : Int) + (tot zs : Int) := rfl
  go_wp2_with fail
  (with_reducible refine (heldSS _ _ _ zs 1 _ G0_m.out (by omega) (by omega) (by omega) (by omega) (by omega)).mono ?_)
  rintro e w11 ⟨rfl, hb⟩
  have z11 := hb.size
  have W0_11 := Lib.hid (W0_10.out.keep hb (by omega))
  have G0_11 := Lib.hid (G0_m.out.keep hb (by omega))
  have Hw11 := Lib.hid (Hw10.out.trans (hb.mono Hw10.out.size))
  clear hb
  go_wp2_with fail
  (with_reducible refine (toTA _ ls0 _ (HV0.out.keep Hw11.out) hl0 (fun j _ => HRW0.out j)).mono ?_)
  rintro e w12 ⟨A12, vs12, LO12, HI12, rfl, ho, hb⟩
  have z12 := hb.size
  have T0 := Lib.hid ho
  have W0_12 := Lib.hid (W0_11.out.keep hb (by omega))
  have G0_12 := Lib.hid (G0_11.out.keep hb (by omega))
  have Hw12 := Lib.hid (Hw11.out.trans (hb.mono Hw11.out.size))
  clear hb ho
  go_wp2_with fail
  (with_reducible refine (HI.out _ _ _ _ T0.out.toT (by omega)).mono ?_)
  rintro e w13 ⟨v13, vs13, rfl, ho, hb⟩
  have z13 := hb.size
  obtain ⟨A13, c13, rfl⟩ := ho.form
  have H0 := Lib.hid (TbH.of ho)
  have W0_13 := Lib.hid (W0_12.out.keep hb (by omega))
  have G0_13 := Lib.hid (G0_12.out.keep hb (by omega))
  have T0_13 := Lib.hid (T0.out.keep hb (by omega))
  have Hw13 := Lib.hid (Hw12.out.trans (hb.mono Hw12.out.size))
  clear hb ho
  go_wp2_with fail
  (with_reducible refine (eqSS_same _ _ _ _ _ _ zs _ H0.out.toT W0_13.out.toT (by omega) (by omega) (by omega) HZZ.out).mono ?_)
  rintro e w14 ⟨rfl, hb⟩
  have z14 := hb.size
  have W0_14 := Lib.hid (W0_13.out.keep hb (by omega))
  have G0_14 := Lib.hid (G0_13.out.keep hb (by omega))
  have H0_14 := Lib.hid (H0.out.keep hb (by omega))
  have Hw14 := Lib.hid (Hw13.out.trans (hb.mono Hw13.out.size))
  clear hb
  go_wp2_with fail
  (with_reducible refine (heldSS _ _ _ zs 1 _ G0_14.out (by omega) (by omega) (by omega) (by omega) (by omega)).mono ?_)
  rintro e w15 ⟨rfl, hb⟩
  have z15 := hb.size
  have G0_15 := Lib.hid (G0_14.out.keep hb (by omega))
  have Hw15 := Lib.hid (Hw14.out.trans (hb.mono Hw14.out.size))
  clear hb
  go_wp2
  go_ret
  exact ⟨rfl, Hw15.out⟩

set_option maxRecDepth 100000 in
set_option maxHeartbeats 3200000 in
theorem lawPromoteTableau (v0 : Value) (ls0 : List (List Int)) (zs : List (List Int)) (R1 : Bool) (w : World) (hv0 : ArgT w v0 ls0) (mp0 : ls0.length ≤ 9223372036854775807) (mr0 : ∀ j, (ls0.getD j []).length ≤ 9223372036854775807) (hll : zs.length ≤ 1048576) (htt : tot zs ≤ 1048576)
    (hS : ls0.length ≤ 1048576 → (∀ j, (ls0.getD j []).length ≤ 1048576) → ∀ u0 lo0 hi0, ∀ w, OwnT w lo0 hi0 (.slice u0 ls0.length ls0.length) ls0 → hi0 ≤ w.heap.size → Calls Try.prog 15 #[(.slice u0 ls0.length ls0.length)] w fun e w' => ∃ v vs, e = .returned (.tuple #[v, .bool R1]) ∧ Tb w' w.heap.size v vs zs ∧ Below w.heap.size w w')
    (hI : ls0.length ≤ 1048576 → (∀ j, (ls0.getD j []).length ≤ 1048576) → ∀ u0 lo0 hi0, ∀ w, OwnT w lo0 hi0 (.slice u0 ls0.length ls0.length) ls0 → hi0 ≤ w.heap.size → Calls Try.prog 16 #[(.slice u0 ls0.length ls0.length)] w fun e w' => ∃ v vs, e = .returned (.tuple #[v, .bool R1]) ∧ Tb w' w.heap.size v vs zs ∧ Below w.heap.size w w') :
    Calls Try.prog 5 #[v0] w fun e w' => e = .returned (.bool true) ∧ Below w.heap.size w w' := by
  have HV0 := Lib.hid hv0
  have MR0 := Lib.hid mr0
  obtain ⟨Aa0, ca0, rfl, -⟩ := id hv0
  have HS0 := Lib.hid hS
  have HI0 := Lib.hid hI
  clear hS hI hv0 mr0
  go_enter Try.func5, Try.ntmps5
  go_wp2_with fail
  (with_reducible refine (szTT _ ls0 1048576 _ HV0.out mp0 MR0.out (by omega) (by omega)).mono ?_)
  rintro e w' ⟨⟨r0, rfl, h⟩, hweq⟩
  subst hweq
  rcases h with h | ⟨h, hk0⟩
  · go_wp2
    go_ret
    exact ⟨rfl, Below.refl _ _⟩
  have hn0 : ¬ r0 < 0 := by omega
  have hl0 : ls0.length ≤ 1048576 := by omega
  have ht0 : tot ls0 ≤ 1048576 := by omega
  have HRW0 := Lib.hid (fun j => show (ls0.getD j []).length ≤ 1048576 from Nat.le_trans (row_tot ls0 j) ht0)
  have HRA0 := Lib.hid (fun j => show (ls0.getD j []).length ≤ 1099511627776 from Nat.le_trans (HRW0.out j) (by decide))
  have HK0 := Lib.hid hk0
  have HS := Lib.hid (HS0.out hl0 HRW0.out)
  have HI := Lib.hid (HI0.out hl0 HRW0.out)
  clear hk0 h
  have hr1 : (R1 != R1) = false := by simp
  have hq1 : (R1 == R1) = true := by simp
  have hq0 : ¬ ((1 : Int) + (tot zs : Int) < 0) := by omega
  have HZZ := Lib.hid (fun j => show (zs.getD j []).length ≤ 1099511627776 from Nat.le_trans (row_tot zs j) (by omega))
  have Hw0 := Lib.hid (Below.refl w'.heap.size w')
  go_wp2_with fail
  (with_reducible refine (toTA _ ls0 _ (HV0.out.keep Hw0.out) hl0 (fun j _ => HRW0.out j)).mono ?_)
  rintro e w1 ⟨A1, vs1, LO1, HI1, rfl, ho, hb⟩
  have z1 := hb.size
  have T0 := Lib.hid ho
  have Hw1 := Lib.hid (Hw0.out.trans (hb.mono Hw0.out.size))
  clear hb ho
  go_wp2_with fail
  (with_reducible refine (HS.out _ _ _ _ T0.out.toT (by omega)).mono ?_)
  rintro e w2 ⟨v2, vs2, rfl, ho, hb⟩
  have z2 := hb.size
  obtain ⟨A2, c2, rfl⟩ := ho.form
  have W0 := Lib.hid (TbH.of ho)
  have T0_2 := Lib.hid (T0.out.keep hb (by omega))
  have Hw2 := Lib.hid (Hw1.out.trans (hb.mono Hw1.out.size))
  clear hb ho
  go_wp2_with fail
  (with_reducible refine (toTA _ ls0 _ (HV0.out.keep Hw2.out) hl0 (fun j _ => HRW0.out j)).mono ?_)
  rintro e w3 ⟨A3, vs3, LO3, HI3, rfl, ho, hb⟩
  have z3 := hb.size
  have X0 := Lib.hid ho
  have W0_3 := Lib.hid (W0.out.keep hb (by omega))
  have Hw3 := Lib.hid (Hw2.out.trans (hb.mono Hw2.out.size))
  clear hb ho
  go_wp2_with fail
  (with_reducible refine (HI.out _ _ _ _ X0.out.toT (by omega)).mono ?_)
  rintro e w4 ⟨v4, vs4, rfl, ho, hb⟩
  have z4 := hb.size
  obtain ⟨A4, c4, rfl⟩ := ho.form
  have G0 := Lib.hid (TbH.of ho)
  have W0_4 := Lib.hid (W0_3.out.keep hb (by omega))
  have X0_4 := Lib.hid (X0.out.keep hb (by omega))
  have Hw4 := Lib.hid (Hw3.out.trans (hb.mono Hw3.out.size))
  clear hb ho
  go_wp2_with fail
  (with_reducible refine (eqSS_same _ _ _ _ _ _ zs _ G0.out.toT W0_4.out.toT (by omega) (by omega) (by omega) HZZ.out).mono ?_)
  rintro e w5 ⟨rfl, hb⟩
  have z5 := hb.size
  have W0_5 := Lib.hid (W0_4.out.keep hb (by omega))
  have X0_5 := Lib.hid (X0_4.out.keep hb (by omega))
  have G0_5 := Lib.hid (G0.out.keep hb (by omega))
  have Hw5 := Lib.hid (Hw4.out.trans (hb.mono Hw4.out.size))
  clear hb
  go_wp2_with fail
  (with_reducible refine (toTA _ ls0 _ (HV0.out.keep Hw5.out) hl0 (fun j _ => HRW0.out j)).mono ?_)
  rintro e w6 ⟨A6, vs6, LO6, HI6, rfl, ho, hb⟩
  have z6 := hb.size
  have T0 := Lib.hid ho
  have W0_6 := Lib.hid (W0_5.out.keep hb (by omega))
  have X0_6 := Lib.hid (X0_5.out.keep hb (by omega))
  have G0_6 := Lib.hid (G0_5.out.keep hb (by omega))
  have Hw6 := Lib.hid (Hw5.out.trans (hb.mono Hw5.out.size))
  clear hb ho
  go_wp2_with fail
  (with_reducible refine (eqSS_same _ _ _ _ _ _ ls0 _ X0_6.out.toT T0.out.toT (by omega) (by omega) (by omega) HRA0.out).mono ?_)
  rintro e w7 ⟨rfl, hb⟩
  have z7 := hb.size
  have W0_7 := Lib.hid (W0_6.out.keep hb (by omega))
  have X0_7 := Lib.hid (X0_6.out.keep hb (by omega))
  have G0_7 := Lib.hid (G0_6.out.keep hb (by omega))
  have T0_7 := Lib.hid (T0.out.keep hb (by omega))
  have Hw7 := Lib.hid (Hw6.out.trans (hb.mono Hw6.out.size))
  clear hb
  have e8 : ¬ ((1 : Int) + (tot ls0 : Int) < 0) := by omega
  go_wp2_with fail
  (with_reducible refine (markTA _ _ _ _ _ _ ls0 1 _ X0_7.out (by omega) (by omega) (by omega) (by omega)).mono ?_)
  rintro e w8 ⟨rfl, hb⟩
  have z8 := hb.size
  have W0_8 := Lib.hid (W0_7.out.apart hb (by omega))
  have G0_8 := Lib.hid (G0_7.out.apart hb (by omega))
  have Hw8 := Lib.hid (Hw7.out.trans (hb.below (by omega)))
  clear hb
  go_wp2_with fail
  (with_reducible refine (eqSS_same _ _ _ _ _ _ zs _ G0_8.out.toT W0_8.out.toT (by omega) (by omega) (by omega) HZZ.out).mono ?_)
  rintro e w9 ⟨rfl, hb⟩
  have z9 := hb.size
  have W0_9 := Lib.hid (W0_8.out.keep hb (by omega))
  have G0_9 := Lib.hid (G0_8.out.keep hb (by omega))
  have Hw9 := Lib.hid (Hw8.out.trans (hb.mono Hw8.out.size))
  clear hb
  go_wp2_with fail
  (with_reducible refine (markSS _ _ _ zs 1 _ G0_9.out.tb (by omega) (by omega) (by omega) (by omega) (by omega)).mono ?_)
  rintro e w10 ⟨rfl, ho, hb⟩
  have z10 := hb.size
  have G0_m := Lib.hid ho
  have W0_10 := Lib.hid (W0_9.out.keep hb (by omega))
  have Hw10 := Lib.hid (Hw9.out.trans (hb.mono (by omega)))
  clear hb ho
  have e1 : (1 : Int) + (tot zs : Int) = (1 : Int) + (tot zs : Int) := rfl
  go_wp2_with fail
  (with_reducible refine (heldSS _ _ _ zs 1 _ G0_m.out (by omega) (by omega) (by omega) (by omega) (by omega)).mono ?_)
  rintro e w11 ⟨rfl, hb⟩
  have z11 := hb.size
  have W0_11 := Lib.hid (W0_10.out.keep hb (by omega))
  have G0_11 := Lib.hid (G0_m.out.keep hb (by omega))
  have Hw11 := Lib.hid (Hw10.out.trans (hb.mono Hw10.out.size))
  clear hb
  go_wp2_with fail
  (with_reducible refine (toTA _ ls0 _ (HV0.out.keep Hw11.out) hl0 (fun j _ => HRW0.out j)).mono ?_)
  rintro e w12 ⟨A12, vs12, LO12, HI12, rfl, ho, hb⟩
  have z12 := hb.size
  have T0 := Lib.hid ho
  have W0_12 := Lib.hid (W0_11.out.keep hb (by omega))
  have G0_12 := Lib.hid (G0_11.out.keep hb (by omega))
  have Hw12 := Lib.hid (Hw11.out.trans (hb.mono Hw11.out.size))
  clear hb ho
  go_wp2_with fail
  (with_reducible refine (HI.out _ _ _ _ T0.out.toT (by omega)).mono ?_)
  rintro e w13 ⟨v13, vs13, rfl, ho, hb⟩
  have z13 := hb.size
  obtain ⟨A13, c13, rfl⟩ := ho.form
  have H0 := Lib.hid (TbH.of ho)
  have W0_13 := Lib.hid (W0_12.out.keep hb (by omega))
  have G0_13 := Lib.hid (G0_12.out.keep hb (by omega))
  have T0_13 := Lib.hid (T0.out.keep hb (by omega))
  have Hw13 := Lib.hid (Hw12.out.trans (hb.mono Hw12.out.size))
  clear hb ho
  go_wp2_with fail
  (with_reducible refine (eqSS_same _ _ _ _ _ _ zs _ H0.out.toT W0_13.out.toT (by omega) (by omega) (by omega) HZZ.out).mono ?_)
  rintro e w14 ⟨rfl, hb⟩
  have z14 := hb.size
  have W0_14 := Lib.hid (W0_13.out.keep hb (by omega))
  have G0_14 := Lib.hid (G0_13.out.keep hb (by omega))
  have H0_14 := Lib.hid (H0.out.keep hb (by omega))
  have Hw14 := Lib.hid (Hw13.out.trans (hb.mono Hw13.out.size))
  clear hb
  go_wp2_with fail
  (with_reducible refine (heldSS _ _ _ zs 1 _ G0_14.out (by omega) (by omega) (by omega) (by omega) (by omega)).mono ?_)
  rintro e w15 ⟨rfl, hb⟩
  have z15 := hb.size
  have G0_15 := Lib.hid (G0_14.out.keep hb (by omega))
  have Hw15 := Lib.hid (Hw14.out.trans (hb.mono Hw14.out.size))
  clear hb
  go_wp2
  go_ret
  exact ⟨rfl, Hw15.out⟩

end Go.Proofs.Ytefbbkogfoongaa
