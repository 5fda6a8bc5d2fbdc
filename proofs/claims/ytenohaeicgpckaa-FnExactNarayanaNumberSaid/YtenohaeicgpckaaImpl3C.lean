/- The contracts of the program's binomial, NarayanaNumber and RankPath. -/
import Derived.Test.YtenohaeicgpckaaImpl3B
import Derived.Test.YtenohaeicgpckaaImpl2A
namespace Go.Proofs.Ytenohaeicgpckaa
open Go.ChangeShapes Go.WideShapes Go.ChangeAt Go.RowKit
set_option linter.unusedVariables false

set_option maxRecDepth 100000 in
set_option maxHeartbeats 800000 in
theorem binomialI (n k : Nat) (w : World) (hn : n ≤ 15) (hk : k ≤ n) : Calls Try.prog 40 #[.int .i64 n, .int .i64 k] w fun e w' => e = .returned (.int .i64 (bn n k)) ∧ w = w' := by
  have hk0 : decide ((k : Int) < 0) = false := by simp
  have hk1 : decide ((n : Int) < (k : Int)) = false := by simp; omega
  have hk2 : decide (n < k) = false := by simp; omega
  go_enter Try.func40, Try.ntmps40
  go_wp2
  go_loop [5, 15] (fun x y => ∃ i : Nat, i ≤ k ∧ y = .int .i64 i ∧ x = .int .i64 (bn n i)) (fun _ y => k - (intOf y).toNat)
  case atStart => exact ⟨0, Nat.zero_le _, rfl, rfl⟩
  case round =>
    obtain ⟨i, hi, rfl, rfl⟩ := hrel
    by_cases hlt : i < k
    · have hii : (i : Int) < (k : Int) := by omega
      have HB := Lib.hid (bn_succ n i)
      obtain ⟨b0, b1⟩ := bn_bd n i hn (by omega)
      generalize bn n i = x at *
      have hd0 : 0 ≤ (n : Int) - (i : Int) ∧ (n : Int) - (i : Int) ≤ 15 := by omega
      have hm0 : 0 ≤ x * ((n : Int) - (i : Int)) := Int.mul_nonneg b0 hd0.1
      have hm1 : x * ((n : Int) - (i : Int)) ≤ 6435 * 15 := Int.mul_le_mul b1 hd0.2 hd0.1 (by decide)
      have hne : ((i : Int) + 1 == 0) = false := beq_eq_false_iff_ne.2 (by omega)
      have hw1 : IntKind.i64.wrap (x * ((n : Int) - (i : Int))) = x * ((n : Int) - (i : Int)) := IntWalk.i64_in _ (by omega)
      go_wp2
      exact ⟨⟨i + 1, by omega, by simp, by rw [HB.out]⟩, by simp [intOf]; omega⟩
    · obtain rfl : i = k := by omega
      go_wp2
      go_ret
      exact ⟨rfl, rfl⟩
theorem binomial_zero (n : Nat) (w : World) (hn : n ≤ 15) : Calls Try.prog 40 #[.int .i64 n, .int .i64 0] w fun e w' => e = .returned (.int .i64 1) ∧ w = w' := by
  simpa [bn_zero] using binomialI n 0 w hn (Nat.zero_le _)
theorem binomial_low (n k : Int) (w : World) (hk : k < 0) : Calls Try.prog 40 #[.int .i64 n, .int .i64 k] w fun e w' => e = .returned (.int .i64 0) ∧ w = w' := by
  go_enter Try.func40, Try.ntmps40
  go_wp2
  go_ret
  exact ⟨rfl, rfl⟩

set_option maxRecDepth 100000 in
set_option maxHeartbeats 800000 in
theorem narayanaNumberI (n k : Int) (w : World) : Calls Try.prog 26 #[.int .i64 n, .int .i64 k] w fun e w' => e = .returned (.int .i64 (narP n k)) ∧ w = w' := by
  by_cases h0 : n < 0
  · have HP := Lib.hid (show narP n k = 0 from if_neg (by omega))
    go_enter Try.func26, Try.ntmps26
    go_wp2
    go_ret
    exact ⟨ret_int HP.out.symm, rfl⟩
  have h0' : decide (n < 0) = false := by simpa using h0
  by_cases h1 : 15 < n
  · have HP := Lib.hid (show narP n k = 0 from if_neg (by omega))
    go_enter Try.func26, Try.ntmps26
    go_wp2
    go_ret
    exact ⟨ret_int HP.out.symm, rfl⟩
  have h1' : decide (15 < n) = false := by simpa using h1
  by_cases h2 : k < 0
  · have HP := Lib.hid (show narP n k = 0 from if_neg (by omega))
    go_enter Try.func26, Try.ntmps26
    go_wp2
    go_ret
    exact ⟨ret_int HP.out.symm, rfl⟩
  have h2' : decide (k < 0) = false := by simpa using h2
  by_cases h3 : n < k
  · have HP := Lib.hid (show narP n k = 0 from if_neg (by omega))
    go_enter Try.func26, Try.ntmps26
    go_wp2
    go_ret
    exact ⟨ret_int HP.out.symm, rfl⟩
  have h3' : decide (n < k) = false := by simpa using h3
  by_cases hn0 : n = 0
  · have HP := Lib.hid (show narP n k = 1 by unfold narP; rw [if_pos (by omega), if_pos hn0])
    have hb : (n == 0) = true := by simp [hn0]
    clear h0 h1 h2 h3 hn0
    go_enter Try.func26, Try.ntmps26
    go_wp2
    go_ret
    exact ⟨ret_int HP.out.symm, rfl⟩
  have hb : (n == 0) = false := by simp [hn0]
  obtain ⟨m, rfl⟩ : ∃ m : Nat, n = m := ⟨n.toNat, by omega⟩
  have hm : m ≤ 15 := by omega
  have hmz : ¬ m = 0 := by omega
  by_cases hk0 : k = 0
  · subst hk0
    have HP := Lib.hid (show narP m 0 = 0 by unfold narP; rw [if_pos (by omega), if_neg hn0, if_pos rfl])
    clear h0 h1 h2 h3 hn0
    go_enter Try.func26, Try.ntmps26
    go_wp2_with fail
    refine (binomial_zero m _ hm).mono ?_
    rintro e w1 ⟨rfl, rfl⟩
    go_wp2_with fail
    refine (binomial_low _ _ _ (by omega)).mono ?_
    rintro e w1 ⟨rfl, rfl⟩
    go_wp2
    go_ret
    exact ⟨ret_int (by rw [HP.out]), rfl⟩
  · obtain ⟨p, rfl⟩ : ∃ p : Nat, k = ((p + 1 : Nat) : Int) := ⟨k.toNat - 1, by omega⟩
    have hqm : p + 1 ≤ m := by omega
    have h3'' : decide (m < p + 1) = false := by simp; omega
    have HP := Lib.hid (show narP m ((p + 1 : Nat) : Int) = bn m (p + 1) * bn m p / m by
      unfold narP
      rw [if_pos (by omega), if_neg hn0, if_neg (by omega)]
      rfl)
    obtain ⟨b0, b1⟩ := bn_bd m (p + 1) hm (by omega)
    obtain ⟨b2, b3⟩ := bn_bd m p hm (by omega)
    have hp1 : (p : Int) + 1 - 1 = (p : Int) := by omega
    clear h0 h1 h2 h3 hn0
    go_enter Try.func26, Try.ntmps26
    go_wp2_with fail
    refine (binomialI m (p + 1) _ hm hqm).mono ?_
    rintro e w1 ⟨rfl, rfl⟩
    go_wp2_with fail
    refine (binomialI m p _ hm (by omega)).mono ?_
    rintro e w1 ⟨rfl, rfl⟩
    generalize bn m (p + 1) = x at *
    generalize bn m p = y at *
    have hm0 : 0 ≤ x * y := Int.mul_nonneg b0 b2
    have hm1 : x * y ≤ 6435 * 6435 := Int.mul_le_mul b1 b3 b2 (by decide)
    have hw1 : IntKind.i64.wrap (x * y) = x * y := IntWalk.i64_in _ (by omega)
    go_wp2
    go_ret
    exact ⟨ret_int HP.out.symm, rfl⟩

end Go.Proofs.Ytenohaeicgpckaa
