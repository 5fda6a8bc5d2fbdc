/- The walk of the law of BlocksOf, from the two functions' contracts. -/
import Derived.Test.YtniddpplmdbcmaaTblK
namespace Go.Proofs.Ytniddpplmdbcmaa
open Go.ChangeShapes Go.WideShapes Go.ChangeAt Go.RowKit
set_option linter.unusedVariables false

theorem tot_app (l : List (List Int)) : tot (l ++ [[]]) = tot l := by
  induction l with
  | nil => rfl
  | cons a l ih => simp [tot, ih]
theorem tot_set (l : List (List Int)) : ∀ (k : Nat) (x : Int), tot (l.set k (l.getD k [] ++ [x])) ≤ tot l + 1 := by
  induction l with
  | nil => intro k x; simp [tot]
  | cons a l ih =>
    intro k x
    cases k with
    | zero => simp [tot]; omega
    | succ k => have := ih k x; simp only [List.set_cons_succ, List.getD_cons_succ, tot]; omega
theorem tot_blN (xs : List Int) (i : Nat) : tot (blN xs i) ≤ i := by
  induction i with
  | zero => exact Nat.le_refl _
  | succ i ih =>
    rw [blN]
    refine Nat.le_trans (tot_set _ _ _) ?_
    split
    · rw [tot_app]; omega
    · omega
theorem blP_bds (xs : List Int) : (blP xs).length ≤ 8 ∧ tot (blP xs) ≤ 8 ∧ ∀ j, ((blP xs).getD j []).length ≤ 8 := by
  unfold blP
  split
  · next h =>
    have h8 := (prt_yes h).1
    exact ⟨by rw [blN_len]; have := ptN_le xs xs.length; omega, Nat.le_trans (tot_blN _ _) h8, fun j => Nat.le_trans (blN_row _ _ j) h8⟩
  · exact ⟨by simp, by simp [tot], fun j => by simp⟩

set_option maxRecDepth 100000 in
set_option maxHeartbeats 3200000 in
theorem lawBlocksOf (v0 : Value) (xs0 : List Int) (ls : List (List Int)) (w : World) (hv0 : ArgI w v0 xs0) (mp0 : xs0.length ≤ 9223372036854775807) (hll : ls.length ≤ 1048576) (htt : tot ls ≤ 1048576) (hrr : ∀ j, (ls.getD j []).length ≤ 1099511627776)
    (hS : xs0.length ≤ 1048576 → ∀ u0 lo0 hi0, ∀ w, OwnI w lo0 hi0 (.slice u0 xs0.length xs0.length) xs0 → hi0 ≤ w.heap.size → Calls Try.prog 17 #[(.slice u0 xs0.length xs0.length)] w fun e w' => ∃ v vs, e = .returned v ∧ Tb w' w.heap.size v vs ls ∧ Below w.heap.size w w')
    (hI : xs0.length ≤ 1048576 → ∀ u0 lo0 hi0, ∀ w, OwnI w lo0 hi0 (.slice u0 xs0.length xs0.length) xs0 → hi0 ≤ w.heap.size → Calls Try.prog 18 #[(.slice u0 xs0.length xs0.length)] w fun e w' => ∃ v vs, e = .returned v ∧ Tb w' w.heap.size v vs ls ∧ Below w.heap.size w w') :
    Calls Try.prog 5 #[v0] w fun e w' => e = .returned (.bool true) ∧ Below w.heap.size w w' := by
  obtain ⟨Aa0, ca0, rfl, -⟩ := id hv0
  by_cases hbig0 : 1048576 < xs0.length
  · have hbi0 : (1048576 : Int) < (xs0.length : Int) := by omega
    clear hS hI hv0
    go_enter Try.func5, Try.ntmps5
    go_wp2
    go_ret
    exact ⟨rfl, Below.refl _ _⟩
  have hsm0 : xs0.length ≤ 1048576 := by omega
  have HS := Lib.hid (hS hsm0)
  have HI := Lib.hid (hI hsm0)
  have HV0 := Lib.hid hv0
  clear hS hI hv0
  have HRR := Lib.hid hrr
  clear hrr
  have hq0 : ¬ ((1 : Int) + (tot ls : Int) < 0) := by omega
  have Hw0 := Lib.hid (Below.refl w.heap.size w)
  go_enter Try.func5, Try.ntmps5
  go_wp2_with fail
  (with_reducible refine (toIntC _ xs0 _ (HV0.out.keep Hw0.out) hsm0).mono ?_)
  rintro e w1 ⟨A1, rfl, ho, hb⟩
  have z1 := hb.size
  have T0 := Lib.hid ho
  have Hw1 := Lib.hid (Hw0.out.trans (hb.mono Hw0.out.size))
  clear hb ho
  go_wp2_with fail
  (with_reducible refine (HS.out _ _ _ _ T0.out (by omega)).mono ?_)
  rintro e w2 ⟨v2, vs2, rfl, ho, hb⟩
  have z2 := hb.size
  obtain ⟨A2, c2, rfl⟩ := ho.form
  have W0 := Lib.hid (OwnT.of ho)
  have T0_2 := Lib.hid (T0.out.keep hb (by omega))
  have Hw2 := Lib.hid (Hw1.out.trans (hb.mono Hw1.out.size))
  clear hb ho
  go_wp2_with fail
  (with_reducible refine (toIntC _ xs0 _ (HV0.out.keep Hw2.out) hsm0).mono ?_)
  rintro e w3 ⟨A3, rfl, ho, hb⟩
  have z3 := hb.size
  have X0 := Lib.hid ho
  have W0_3 := Lib.hid (W0.out.keep hb (by omega))
  have Hw3 := Lib.hid (Hw2.out.trans (hb.mono Hw2.out.size))
  clear hb ho
  go_wp2_with fail
  (with_reducible refine (HI.out _ _ _ _ X0.out (by omega)).mono ?_)
  rintro e w4 ⟨v4, vs4, rfl, ho, hb⟩
  have z4 := hb.size
  obtain ⟨A4, c4, rfl⟩ := ho.form
  have G0 := Lib.hid (TbH.of ho)
  have W0_4 := Lib.hid (W0_3.out.keep hb (by omega))
  have X0_4 := Lib.hid (X0.out.keep hb (by omega))
  have Hw4 := Lib.hid (Hw3.out.trans (hb.mono Hw3.out.size))
  clear hb ho
  go_wp2_with fail
  (with_reducible refine (eqSS_same _ _ _ _ _ _ ls _ G0.out.toT W0_4.out (by omega) (by omega) (by omega) HRR.out).mono ?_)
  rintro e w5 ⟨rfl, hb⟩
  have z5 := hb.size
  have W0_5 := Lib.hid (W0_4.out.keep hb (by omega))
  have X0_5 := Lib.hid (X0_4.out.keep hb (by omega))
  have G0_5 := Lib.hid (G0.out.keep hb (by omega))
  have Hw5 := Lib.hid (Hw4.out.trans (hb.mono Hw4.out.size))
  clear hb
  go_wp2_with fail
  (with_reducible refine (toIntC _ xs0 _ (HV0.out.keep Hw5.out) hsm0).mono ?_)
  rintro e w6 ⟨A6, rfl, ho, hb⟩
  have z6 := hb.size
  have T0 := Lib.hid ho
  have W0_6 := Lib.hid (W0_5.out.keep hb (by omega))
  have X0_6 := Lib.hid (X0_5.out.keep hb (by omega))
  have G0_6 := Lib.hid (G0_5.out.keep hb (by omega))
  have Hw6 := Lib.hid (Hw5.out.trans (hb.mono Hw5.out.size))
  clear hb ho
  go_wp2_with fail
  (with_reducible refine (eqI_same _ _ _ _ _ _ xs0 _ X0_6.out T0.out (by omega)).mono ?_)
  rintro e w7 ⟨rfl, hb⟩
  have z7 := hb.size
  have W0_7 := Lib.hid (W0_6.out.keep hb (by omega))
  have X0_7 := Lib.hid (X0_6.out.keep hb (by omega))
  have G0_7 := Lib.hid (G0_6.out.keep hb (by omega))
  have T0_7 := Lib.hid (T0.out.keep hb (by omega))
  have Hw7 := Lib.hid (Hw6.out.trans (hb.mono Hw6.out.size))
  clear hb
  go_wp2_with fail
  (with_reducible refine (markO _ _ _ xs0 1 _ X0_7.out (by omega) (by omega) (by omega)).mono ?_)
  rintro e w8 ⟨rfl, ho, hb⟩
  have z8 := hb.size
  have X0_m := Lib.hid ho
  have W0_8 := Lib.hid (W0_7.out.apart hb (by omega))
  have G0_8 := Lib.hid (G0_7.out.apart hb (by omega))
  have Hw8 := Lib.hid (Hw7.out.trans (hb.below (by omega)))
  clear hb ho
  go_wp2_with fail
  (with_reducible refine (eqSS_same _ _ _ _ _ _ ls _ G0_8.out.toT W0_8.out (by omega) (by omega) (by omega) HRR.out).mono ?_)
  rintro e w9 ⟨rfl, hb⟩
  have z9 := hb.size
  have W0_9 := Lib.hid (W0_8.out.keep hb (by omega))
  have G0_9 := Lib.hid (G0_8.out.keep hb (by omega))
  have Hw9 := Lib.hid (Hw8.out.trans (hb.mono Hw8.out.size))
  clear hb
  go_wp2_with fail
  (with_reducible refine (markSS _ _ _ ls 1 _ G0_9.out.tb (by omega) (by omega) (by omega) (by omega) (by omega)).mono ?_)
  rintro e wm ⟨rfl, ho, hb⟩
  have zm := hb.size
  have G0_m := Lib.hid ho
  have W0_m := Lib.hid (W0_9.out.keep hb (by omega))
  have Hwm := Lib.hid (Hw9.out.trans (hb.mono (by omega)))
  clear hb ho
  have e1 : (1 : Int) + (tot ls : Int) = (1 : Int) + (tot ls : Int) := rfl
  go_wp2_with fail
  (with_reducible refine (heldSS _ _ _ ls 1 _ G0_m.out (by omega) (by omega) (by omega) (by omega) (by omega)).mono ?_)
  rintro e w10 ⟨rfl, hb⟩
  have z10 := hb.size
  have W0_10 := Lib.hid (W0_m.out.keep hb (by omega))
  have G0_10 := Lib.hid (G0_m.out.keep hb (by omega))
  have Hw10 := Lib.hid (Hwm.out.trans (hb.mono Hwm.out.size))
  clear hb
  go_wp2_with fail
  (with_reducible refine (toIntC _ xs0 _ (HV0.out.keep Hw10.out) hsm0).mono ?_)
  rintro e w12 ⟨A12, rfl, ho, hb⟩
  have z12 := hb.size
  have T0 := Lib.hid ho
  have W0_12 := Lib.hid (W0_10.out.keep hb (by omega))
  have G0_12 := Lib.hid (G0_10.out.keep hb (by omega))
  have Hw12 := Lib.hid (Hw10.out.trans (hb.mono Hw10.out.size))
  clear hb ho
  go_wp2_with fail
  (with_reducible refine (HI.out _ _ _ _ T0.out (by omega)).mono ?_)
  rintro e w13 ⟨v13, vs13, rfl, ho, hb⟩
  have z13 := hb.size
  obtain ⟨A13, c13, rfl⟩ := ho.form
  have H0 := Lib.hid (OwnT.of ho)
  have W0_13 := Lib.hid (W0_12.out.keep hb (by omega))
  have G0_13 := Lib.hid (G0_12.out.keep hb (by omega))
  have T0_13 := Lib.hid (T0.out.keep hb (by omega))
  have Hw13 := Lib.hid (Hw12.out.trans (hb.mono Hw12.out.size))
  clear hb ho
  go_wp2_with fail
  (with_reducible refine (eqSS_same _ _ _ _ _ _ ls _ H0.out W0_13.out (by omega) (by omega) (by omega) HRR.out).mono ?_)
  rintro e w14 ⟨rfl, hb⟩
  have z14 := hb.size
  have W0_14 := Lib.hid (W0_13.out.keep hb (by omega))
  have G0_14 := Lib.hid (G0_13.out.keep hb (by omega))
  have H0_14 := Lib.hid (H0.out.keep hb (by omega))
  have Hw14 := Lib.hid (Hw13.out.trans (hb.mono Hw13.out.size))
  clear hb
  go_wp2_with fail
  (with_reducible refine (heldSS _ _ _ ls 1 _ G0_14.out (by omega) (by omega) (by omega) (by omega) (by omega)).mono ?_)
  rintro e w15 ⟨rfl, hb⟩
  have Hw15 := Lib.hid (Hw14.out.trans (hb.mono Hw14.out.size))
  clear hb
  go_wp2
  go_ret
  exact ⟨rfl, Hw15.out⟩

end Go.Proofs.Ytniddpplmdbcmaa
