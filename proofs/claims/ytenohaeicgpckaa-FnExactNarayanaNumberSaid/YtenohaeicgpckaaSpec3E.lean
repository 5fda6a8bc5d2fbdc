/- The contract of the model's NarayanaNumber. -/
import Derived.Test.YtenohaeicgpckaaSpec2A
namespace Go.Proofs.Ytenohaeicgpckaa
open Go.ChangeShapes Go.WideShapes Go.ChangeAt Go.RowKit
set_option linter.unusedVariables false

/-- A binomial number, step by step. -/
def bn (n : Nat) : Nat → Int
  | 0 => 1
  | i + 1 => bn n i * ((n : Int) - i) / ((i : Int) + 1)
theorem bn_zero (n : Nat) : bn n 0 = 1 := rfl
theorem bn_succ (n i : Nat) : bn n (i + 1) = bn n i * ((n : Int) - i) / ((i : Int) + 1) := rfl
set_option maxRecDepth 100000 in
theorem bn_all : ∀ n, n < 16 → ∀ k, k < 16 → 0 ≤ bn n k ∧ bn n k ≤ 6435 := by decide
theorem bn_bd (n k : Nat) (h : n ≤ 15) (hk : k ≤ 15) : 0 ≤ bn n k ∧ bn n k ≤ 6435 := bn_all n (by omega) k (by omega)

set_option maxRecDepth 100000 in
set_option maxHeartbeats 800000 in
theorem l3Binomial (n k : Nat) (w : World) (hn : n ≤ 15) (hk : k ≤ n) : Calls Try.prog 39 #[.int .i64 n, .int .i64 k] w fun e w' => e = .returned (.int .i64 (bn n k)) ∧ w = w' := by
  go_enter Try.func39, Try.ntmps39
  go_wp2
  go_loop [5, 6] (fun x y => ∃ i : Nat, i ≤ k ∧ y = .int .i64 i ∧ x = .int .i64 (bn n i)) (fun _ y => k - (intOf y).toNat)
  case atStart => exact ⟨0, Nat.zero_le _, rfl, rfl⟩
  case round =>
    obtain ⟨i, hi, rfl, rfl⟩ := hrel
    by_cases hlt : i < k
    · have hii : (i : Int) < (k : Int) := by omega
      have HB := Lib.hid (bn_succ n i)
      obtain ⟨b0, b1⟩ := bn_bd n i hn (by omega)
      generalize bn n i = x at *
      have hd0 : 0 ≤ (n : Int) - (i : Int) ∧ (n : Int) - (i : Int) ≤ 15 := by omega
      have hm0 : 0 ≤ x * ((n : Int) - (i : Int)) := Int.mul_nonneg b0 hd0.1
      have hm1 : x * ((n : Int) - (i : Int)) ≤ 6435 * 15 := Int.mul_le_mul b1 hd0.2 hd0.1 (by decide)
      have hne : ((i : Int) + 1 == 0) = false := beq_eq_false_iff_ne.2 (by omega)
      have hw1 : IntKind.i64.wrap (x * ((n : Int) - (i : Int))) = x * ((n : Int) - (i : Int)) := IntWalk.i64_in _ (by omega)
      go_wp2
      exact ⟨⟨i + 1, by omega, by simp, by rw [HB.out]⟩, by simp [intOf]; omega⟩
    · obtain rfl : i = k := by omega
      go_wp2
      go_ret
      exact ⟨rfl, rfl⟩

def narP (n k : Int) : Int := if 0 ≤ n ∧ n ≤ 15 ∧ 0 ≤ k ∧ k ≤ n then (if n = 0 then 1 else if k = 0 then 0 else bn n.toNat k.toNat * bn n.toNat (k.toNat - 1) / n) else 0

set_option maxRecDepth 100000 in
set_option maxHeartbeats 800000 in
theorem narayanaNumber (n k : Int) (w : World) : Calls Try.prog 25 #[.int .i64 n, .int .i64 k] w fun e w' => e = .returned (.int .i64 (narP n k)) ∧ w = w' := by
  by_cases h0 : n < 0
  · have HP := Lib.hid (show narP n k = 0 from if_neg (by omega))
    go_enter Try.func25, Try.ntmps25
    go_wp2_with fail
    (with_reducible refine (l1In_no1 n 0 15 _ h0).mono ?_)
    rintro e w' ⟨rfl, rfl⟩
    go_wp2
    go_ret
    exact ⟨ret_int HP.out.symm, rfl⟩
  by_cases h1 : 15 < n
  · have HP := Lib.hid (show narP n k = 0 from if_neg (by omega))
    have h0' : 0 ≤ n := by omega
    go_enter Try.func25, Try.ntmps25
    go_wp2_with fail
    (with_reducible refine (l1In_no2 n 0 15 _ h0' h1).mono ?_)
    rintro e w' ⟨rfl, rfl⟩
    go_wp2
    go_ret
    exact ⟨ret_int HP.out.symm, rfl⟩
  have h0' : 0 ≤ n := by omega
  have h1' : n ≤ 15 := by omega
  by_cases h2 : k < 0
  · have HP := Lib.hid (show narP n k = 0 from if_neg (by omega))
    go_enter Try.func25, Try.ntmps25
    go_wp2_with fail
    (with_reducible refine (l1In_yes n 0 15 _ h0' h1').mono ?_)
    rintro e w' ⟨rfl, rfl⟩
    go_wp2_with fail
    (with_reducible refine (l1In_no1 k 0 n _ h2).mono ?_)
    rintro e w' ⟨rfl, rfl⟩
    go_wp2
    go_ret
    exact ⟨ret_int HP.out.symm, rfl⟩
  have h2' : 0 ≤ k := by omega
  by_cases h3 : n < k
  · have HP := Lib.hid (show narP n k = 0 from if_neg (by omega))
    go_enter Try.func25, Try.ntmps25
    go_wp2_with fail
    (with_reducible refine (l1In_yes n 0 15 _ h0' h1').mono ?_)
    rintro e w' ⟨rfl, rfl⟩
    go_wp2_with fail
    (with_reducible refine (l1In_no2 k 0 n _ h2' h3).mono ?_)
    rintro e w' ⟨rfl, rfl⟩
    go_wp2
    go_ret
    exact ⟨ret_int HP.out.symm, rfl⟩
  have h3' : k ≤ n := by omega
  clear h0 h1 h2 h3
  by_cases hn0 : n = 0
  · have HP := Lib.hid (show narP n k = 1 by unfold narP; rw [if_pos ⟨h0', h1', h2', h3'⟩, if_pos hn0])
    have b1 : (n == 0) = true := by simp [hn0]
    clear hn0
    go_enter Try.func25, Try.ntmps25
    go_wp2_with fail
    (with_reducible refine (l1In_yes n 0 15 _ h0' h1').mono ?_)
    rintro e w' ⟨rfl, rfl⟩
    go_wp2_with fail
    (with_reducible refine (l1In_yes k 0 n _ h2' h3').mono ?_)
    rintro e w' ⟨rfl, rfl⟩
    go_wp2
    go_ret
    exact ⟨ret_int HP.out.symm, rfl⟩
  have b1 : (n == 0) = false := by simp [hn0]
  by_cases hk0 : k = 0
  · have HP := Lib.hid (show narP n k = 0 by unfold narP; rw [if_pos ⟨h0', h1', h2', h3'⟩, if_neg hn0, if_pos hk0])
    have b2 : (k == 0) = true := by simp [hk0]
    clear hk0
    go_enter Try.func25, Try.ntmps25
    go_wp2_with fail
    (with_reducible refine (l1In_yes n 0 15 _ h0' h1').mono ?_)
    rintro e w' ⟨rfl, rfl⟩
    go_wp2_with fail
    (with_reducible refine (l1In_yes k 0 n _ h2' h3').mono ?_)
    rintro e w' ⟨rfl, rfl⟩
    go_wp2
    go_ret
    exact ⟨ret_int HP.out.symm, rfl⟩
  · have b2 : (k == 0) = false := by simp [hk0]
    obtain ⟨m, rfl⟩ : ∃ m : Nat, n = m := ⟨n.toNat, by omega⟩
    obtain ⟨q, rfl⟩ : ∃ q : Nat, k = q := ⟨k.toNat, by omega⟩
    obtain ⟨p, HQ, hp⟩ : ∃ p, Hid (q = p + 1) ∧ (q : Int) - 1 = (p : Int) := ⟨q - 1, Lib.hid (by omega), by omega⟩
    have hq := HQ.out
    have HP := Lib.hid (show narP m q = bn m q * bn m p / m by
      unfold narP
      rw [if_pos ⟨h0', h1', h2', h3'⟩, if_neg hn0, if_neg hk0]
      simp only [Int.toNat_natCast]
      rw [hq]; rfl)
    obtain ⟨x0, x1⟩ := bn_bd m q (by omega) (by omega)
    obtain ⟨y0, y1⟩ := bn_bd m p (by omega) (by omega)
    have hm0 := Int.mul_nonneg x0 y0
    have hm1 : bn m q * bn m p ≤ 6435 * 6435 := Int.mul_le_mul x1 y1 y0 (by decide)
    have hw1 : IntKind.i64.wrap (bn m q * bn m p) = bn m q * bn m p := IntWalk.i64_in _ (by omega)
    have hpm : p ≤ m := by omega
    clear hq
    go_enter Try.func25, Try.ntmps25
    go_wp2_with fail
    (with_reducible refine (l1In_yes _ 0 15 _ h0' h1').mono ?_)
    rintro e w' ⟨rfl, rfl⟩
    go_wp2_with fail
    (with_reducible refine (l1In_yes _ 0 _ _ h2' h3').mono ?_)
    rintro e w' ⟨rfl, rfl⟩
    go_wp2_with fail
    (with_reducible refine (l3Binomial m q _ (by omega) (by omega)).mono ?_)
    rintro e w' ⟨rfl, rfl⟩
    go_wp2_with fail
    (with_reducible refine (l3Binomial m p _ (by omega) hpm).mono ?_)
    rintro e w' ⟨rfl, rfl⟩
    generalize bn m q = x at *
    generalize bn m p = y at *
    go_wp2
    go_ret
    exact ⟨ret_int HP.out.symm, rfl⟩

end Go.Proofs.Ytenohaeicgpckaa
