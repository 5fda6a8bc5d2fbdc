/- IntervalFormula, both functions (written by tools/mk17f.py). -/
import Derived.Test.YtbbbnnkkjgikbaaSpec2A
import Derived.Test.YtbbbnnkkjgikbaaSpec6F
namespace Go.Proofs.Ytbbbnnkkjgikbaa
open Go.ChangeShapes Go.WideShapes Go.ChangeAt Go.RowKit
set_option linter.unusedVariables false

def bnF (n : Nat) : Nat → Int
  | 0 => 1
  | k + 1 => bnF n k * ((n : Int) - k) / ((k : Int) + 1)
theorem bnF_succ (n i : Nat) : bnF n (i + 1) = bnF n i * ((n : Int) - i) / ((i : Int) + 1) := rfl
theorem bnF_all : ∀ n, n < 30 → ∀ k, k < 7 → 0 ≤ bnF n k ∧ bnF n k ≤ 475020 := by decide +kernel
theorem bnF_bd (n k : Nat) (h : n ≤ 29) (hk : k ≤ 6) : 0 ≤ bnF n k ∧ bnF n k ≤ 475020 := bnF_all n (by omega) k (by omega)
def intP (n : Int) : Int := if n = 0 then 1 else if n = 1 then 1 else if n = 2 then 3 else if n = 3 then 13 else if n = 4 then 68 else if n = 5 then 399 else if n = 6 then 2530 else if n = 7 then 16965 else -1

set_option maxRecDepth 100000 in
set_option maxHeartbeats 800000 in
theorem binS (n k : Nat) (w : World) (hn : n ≤ 29) (hk6 : k ≤ 6) (hk : k ≤ n) : Calls Try.prog 83 #[.int .i64 n, .int .i64 k] w fun e w' => e = .returned (.int .i64 (bnF n k)) ∧ w = w' := by
  have hk0 : decide ((k : Int) < 0) = false := by simp
  have hk1 : decide ((n : Int) < (k : Int)) = false := by simp; omega
  have hk2 : decide (n < k) = false := by simp; omega
  go_enter Try.func83, Try.ntmps83
  go_wp2
  go_loop [5, 6] (fun x y => ∃ i : Nat, i ≤ k ∧ y = .int .i64 i ∧ x = .int .i64 (bnF n i)) (fun _ y => k - (intOf y).toNat)
  case atStart => exact ⟨0, Nat.zero_le _, rfl, rfl⟩
  case round =>
    obtain ⟨i, hi, rfl, rfl⟩ := hrel
    by_cases hlt : i < k
    · have hii : (i : Int) < (k : Int) := by omega
      have HB := Lib.hid (bnF_succ n i)
      obtain ⟨b0, b1⟩ := bnF_bd n i hn (by omega)
      generalize bnF n i = x at *
      have hd0 : 0 ≤ (n : Int) - (i : Int) ∧ (n : Int) - (i : Int) ≤ 29 := by omega
      have hm0 : 0 ≤ x * ((n : Int) - (i : Int)) := Int.mul_nonneg b0 hd0.1
      have hm1 : x * ((n : Int) - (i : Int)) ≤ 475020 * 29 := Int.mul_le_mul b1 hd0.2 hd0.1 (by decide)
      have hne : ((i : Int) + 1 == 0) = false := beq_eq_false_iff_ne.2 (by omega)
      have hw1 : IntKind.i64.wrap (x * ((n : Int) - (i : Int))) = x * ((n : Int) - (i : Int)) := IntWalk.i64_in _ (by omega)
      go_wp2
      exact ⟨⟨i + 1, by omega, by simp, by rw [HB.out]⟩, by simp [intOf]; omega⟩
    · obtain rfl : i = k := by omega
      go_wp2
      go_ret
      exact ⟨rfl, rfl⟩

set_option maxRecDepth 100000 in
set_option maxHeartbeats 800000 in
theorem binI (n k : Nat) (w : World) (hn : n ≤ 29) (hk6 : k ≤ 6) (hk : k ≤ n) : Calls Try.prog 84 #[.int .i64 n, .int .i64 k] w fun e w' => e = .returned (.int .i64 (bnF n k)) ∧ w = w' := by
  have hk0 : decide ((k : Int) < 0) = false := by simp
  have hk1 : decide ((n : Int) < (k : Int)) = false := by simp; omega
  have hk2 : decide (n < k) = false := by simp; omega
  go_enter Try.func84, Try.ntmps84
  go_wp2
  go_loop [5, 15] (fun x y => ∃ i : Nat, i ≤ k ∧ y = .int .i64 i ∧ x = .int .i64 (bnF n i)) (fun _ y => k - (intOf y).toNat)
  case atStart => exact ⟨0, Nat.zero_le _, rfl, rfl⟩
  case round =>
    obtain ⟨i, hi, rfl, rfl⟩ := hrel
    by_cases hlt : i < k
    · have hii : (i : Int) < (k : Int) := by omega
      have HB := Lib.hid (bnF_succ n i)
      obtain ⟨b0, b1⟩ := bnF_bd n i hn (by omega)
      generalize bnF n i = x at *
      have hd0 : 0 ≤ (n : Int) - (i : Int) ∧ (n : Int) - (i : Int) ≤ 29 := by omega
      have hm0 : 0 ≤ x * ((n : Int) - (i : Int)) := Int.mul_nonneg b0 hd0.1
      have hm1 : x * ((n : Int) - (i : Int)) ≤ 475020 * 29 := Int.mul_le_mul b1 hd0.2 hd0.1 (by decide)
      have hne : ((i : Int) + 1 == 0) = false := beq_eq_false_iff_ne.2 (by omega)
      have hw1 : IntKind.i64.wrap (x * ((n : Int) - (i : Int))) = x * ((n : Int) - (i : Int)) := IntWalk.i64_in _ (by omega)
      go_wp2
      exact ⟨⟨i + 1, by omega, by simp, by rw [HB.out]⟩, by simp [intOf]; omega⟩
    · obtain rfl : i = k := by omega
      go_wp2
      go_ret
      exact ⟨rfl, rfl⟩

set_option maxRecDepth 100000 in
set_option maxHeartbeats 1600000 in
theorem intervalFormula (n : Int) (w : World) : Calls Try.prog 48 #[.int .i64 n] w fun e w' => e = .returned (.int .i64 (intP n)) ∧ w = w' := by
  by_cases h : 0 ≤ n ∧ n ≤ 7
  · rcases (by omega : n = 0 ∨ n = 1 ∨ n = 2 ∨ n = 3 ∨ n = 4 ∨ n = 5 ∨ n = 6 ∨ n = 7) with rfl | rfl | rfl | rfl | rfl | rfl | rfl | rfl
    · have HI := Lib.hid (l1In_yes 0 0 7 w (by omega) (by omega))
      clear h
      go_enter Try.func48, Try.ntmps48
      go_wp2_with fail
      (with_reducible refine HI.out.mono ?_)
      rintro e w' ⟨rfl, rfl⟩
      go_wp2
      go_ret
      first | exact ⟨rfl, rfl⟩ | exact ⟨ret_int (by decide), rfl⟩
    · have HI := Lib.hid (l1In_yes 1 0 7 w (by omega) (by omega))
      have HB := Lib.hid (show Calls Try.prog 83 #[.int .i64 5, .int .i64 0] w (fun e w' => e = .returned (.int .i64 1) ∧ w = w') from binS 5 0 w (by omega) (by omega) (by omega))
      clear h
      go_enter Try.func48, Try.ntmps48
      go_wp2_with fail
      (with_reducible refine HI.out.mono ?_)
      rintro e w' ⟨rfl, rfl⟩
      go_wp2_with fail
      (with_reducible refine HB.out.mono ?_)
      rintro e w' ⟨rfl, rfl⟩
      go_wp2
      go_ret
      first | exact ⟨rfl, rfl⟩ | exact ⟨ret_int (by decide), rfl⟩
    · have HI := Lib.hid (l1In_yes 2 0 7 w (by omega) (by omega))
      have HB := Lib.hid (show Calls Try.prog 83 #[.int .i64 9, .int .i64 1] w (fun e w' => e = .returned (.int .i64 9) ∧ w = w') from binS 9 1 w (by omega) (by omega) (by omega))
      clear h
      go_enter Try.func48, Try.ntmps48
      go_wp2_with fail
      (with_reducible refine HI.out.mono ?_)
      rintro e w' ⟨rfl, rfl⟩
      go_wp2_with fail
      (with_reducible refine HB.out.mono ?_)
      rintro e w' ⟨rfl, rfl⟩
      go_wp2
      go_ret
      first | exact ⟨rfl, rfl⟩ | exact ⟨ret_int (by decide), rfl⟩
    · have HI := Lib.hid (l1In_yes 3 0 7 w (by omega) (by omega))
      have HB := Lib.hid (show Calls Try.prog 83 #[.int .i64 13, .int .i64 2] w (fun e w' => e = .returned (.int .i64 78) ∧ w = w') from binS 13 2 w (by omega) (by omega) (by omega))
      clear h
      go_enter Try.func48, Try.ntmps48
      go_wp2_with fail
      (with_reducible refine HI.out.mono ?_)
      rintro e w' ⟨rfl, rfl⟩
      go_wp2_with fail
      (with_reducible refine HB.out.mono ?_)
      rintro e w' ⟨rfl, rfl⟩
      go_wp2
      go_ret
      first | exact ⟨rfl, rfl⟩ | exact ⟨ret_int (by decide), rfl⟩
    · have HI := Lib.hid (l1In_yes 4 0 7 w (by omega) (by omega))
      have HB := Lib.hid (show Calls Try.prog 83 #[.int .i64 17, .int .i64 3] w (fun e w' => e = .returned (.int .i64 680) ∧ w = w') from binS 17 3 w (by omega) (by omega) (by omega))
      clear h
      go_enter Try.func48, Try.ntmps48
      go_wp2_with fail
      (with_reducible refine HI.out.mono ?_)
      rintro e w' ⟨rfl, rfl⟩
      go_wp2_with fail
      (with_reducible refine HB.out.mono ?_)
      rintro e w' ⟨rfl, rfl⟩
      go_wp2
      go_ret
      first | exact ⟨rfl, rfl⟩ | exact ⟨ret_int (by decide), rfl⟩
    · have HI := Lib.hid (l1In_yes 5 0 7 w (by omega) (by omega))
      have HB := Lib.hid (show Calls Try.prog 83 #[.int .i64 21, .int .i64 4] w (fun e w' => e = .returned (.int .i64 5985) ∧ w = w') from binS 21 4 w (by omega) (by omega) (by omega))
      clear h
      go_enter Try.func48, Try.ntmps48
      go_wp2_with fail
      (with_reducible refine HI.out.mono ?_)
      rintro e w' ⟨rfl, rfl⟩
      go_wp2_with fail
      (with_reducible refine HB.out.mono ?_)
      rintro e w' ⟨rfl, rfl⟩
      go_wp2
      go_ret
      first | exact ⟨rfl, rfl⟩ | exact ⟨ret_int (by decide), rfl⟩
    · have HI := Lib.hid (l1In_yes 6 0 7 w (by omega) (by omega))
      have HB := Lib.hid (show Calls Try.prog 83 #[.int .i64 25, .int .i64 5] w (fun e w' => e = .returned (.int .i64 53130) ∧ w = w') from binS 25 5 w (by omega) (by omega) (by omega))
      clear h
      go_enter Try.func48, Try.ntmps48
      go_wp2_with fail
      (with_reducible refine HI.out.mono ?_)
      rintro e w' ⟨rfl, rfl⟩
      go_wp2_with fail
      (with_reducible refine HB.out.mono ?_)
      rintro e w' ⟨rfl, rfl⟩
      go_wp2
      go_ret
      first | exact ⟨rfl, rfl⟩ | exact ⟨ret_int (by decide), rfl⟩
    · have HI := Lib.hid (l1In_yes 7 0 7 w (by omega) (by omega))
      have HB := Lib.hid (show Calls Try.prog 83 #[.int .i64 29, .int .i64 6] w (fun e w' => e = .returned (.int .i64 475020) ∧ w = w') from binS 29 6 w (by omega) (by omega) (by omega))
      clear h
      go_enter Try.func48, Try.ntmps48
      go_wp2_with fail
      (with_reducible refine HI.out.mono ?_)
      rintro e w' ⟨rfl, rfl⟩
      go_wp2_with fail
      (with_reducible refine HB.out.mono ?_)
      rintro e w' ⟨rfl, rfl⟩
      go_wp2
      go_ret
      first | exact ⟨rfl, rfl⟩ | exact ⟨ret_int (by decide), rfl⟩
  · have HP := Lib.hid (show intP n = -1 by unfold intP; repeat (rw [if_neg (by omega)]))
    have HI := Lib.hid (l1In_not n 0 7 w h)
    go_enter Try.func48, Try.ntmps48
    go_wp2_with fail
    (with_reducible refine HI.out.mono ?_)
    rintro e w' ⟨rfl, rfl⟩
    go_wp2
    go_ret
    exact ⟨ret_int HP.out.symm, rfl⟩

set_option maxRecDepth 100000 in
set_option maxHeartbeats 1600000 in
theorem intervalFormulaI (n : Int) (w : World) : Calls Try.prog 49 #[.int .i64 n] w fun e w' => e = .returned (.int .i64 (intP n)) ∧ w = w' := by
  by_cases h : 0 ≤ n ∧ n ≤ 7
  · rcases (by omega : n = 0 ∨ n = 1 ∨ n = 2 ∨ n = 3 ∨ n = 4 ∨ n = 5 ∨ n = 6 ∨ n = 7) with rfl | rfl | rfl | rfl | rfl | rfl | rfl | rfl
    · clear h
      go_enter Try.func49, Try.ntmps49
      go_wp2
      go_ret
      first | exact ⟨rfl, rfl⟩ | exact ⟨ret_int (by decide), rfl⟩
    · have HB := Lib.hid (show Calls Try.prog 84 #[.int .i64 5, .int .i64 0] w (fun e w' => e = .returned (.int .i64 1) ∧ w = w') from binI 5 0 w (by omega) (by omega) (by omega))
      clear h
      go_enter Try.func49, Try.ntmps49
      go_wp2_with fail
      (with_reducible refine HB.out.mono ?_)
      rintro e w' ⟨rfl, rfl⟩
      go_wp2
      go_ret
      first | exact ⟨rfl, rfl⟩ | exact ⟨ret_int (by decide), rfl⟩
    · have HB := Lib.hid (show Calls Try.prog 84 #[.int .i64 9, .int .i64 1] w (fun e w' => e = .returned (.int .i64 9) ∧ w = w') from binI 9 1 w (by omega) (by omega) (by omega))
      clear h
      go_enter Try.func49, Try.ntmps49
      go_wp2_with fail
      (with_reducible refine HB.out.mono ?_)
      rintro e w' ⟨rfl, rfl⟩
      go_wp2
      go_ret
      first | exact ⟨rfl, rfl⟩ | exact ⟨ret_int (by decide), rfl⟩
    · have HB := Lib.hid (show Calls Try.prog 84 #[.int .i64 13, .int .i64 2] w (fun e w' => e = .returned (.int .i64 78) ∧ w = w') from binI 13 2 w (by omega) (by omega) (by omega))
      clear h
      go_enter Try.func49, Try.ntmps49
      go_wp2_with fail
      (with_reducible refine HB.out.mono ?_)
      rintro e w' ⟨rfl, rfl⟩
      go_wp2
      go_ret
      first | exact ⟨rfl, rfl⟩ | exact ⟨ret_int (by decide), rfl⟩
    · have HB := Lib.hid (show Calls Try.prog 84 #[.int .i64 17, .int .i64 3] w (fun e w' => e = .returned (.int .i64 680) ∧ w = w') from binI 17 3 w (by omega) (by omega) (by omega))
      clear h
      go_enter Try.func49, Try.ntmps49
      go_wp2_with fail
      (with_reducible refine HB.out.mono ?_)
      rintro e w' ⟨rfl, rfl⟩
      go_wp2
      go_ret
      first | exact ⟨rfl, rfl⟩ | exact ⟨ret_int (by decide), rfl⟩
    · have HB := Lib.hid (show Calls Try.prog 84 #[.int .i64 21, .int .i64 4] w (fun e w' => e = .returned (.int .i64 5985) ∧ w = w') from binI 21 4 w (by omega) (by omega) (by omega))
      clear h
      go_enter Try.func49, Try.ntmps49
      go_wp2_with fail
      (with_reducible refine HB.out.mono ?_)
      rintro e w' ⟨rfl, rfl⟩
      go_wp2
      go_ret
      first | exact ⟨rfl, rfl⟩ | exact ⟨ret_int (by decide), rfl⟩
    · have HB := Lib.hid (show Calls Try.prog 84 #[.int .i64 25, .int .i64 5] w (fun e w' => e = .returned (.int .i64 53130) ∧ w = w') from binI 25 5 w (by omega) (by omega) (by omega))
      clear h
      go_enter Try.func49, Try.ntmps49
      go_wp2_with fail
      (with_reducible refine HB.out.mono ?_)
      rintro e w' ⟨rfl, rfl⟩
      go_wp2
      go_ret
      first | exact ⟨rfl, rfl⟩ | exact ⟨ret_int (by decide), rfl⟩
    · have HB := Lib.hid (show Calls Try.prog 84 #[.int .i64 29, .int .i64 6] w (fun e w' => e = .returned (.int .i64 475020) ∧ w = w') from binI 29 6 w (by omega) (by omega) (by omega))
      clear h
      go_enter Try.func49, Try.ntmps49
      go_wp2_with fail
      (with_reducible refine HB.out.mono ?_)
      rintro e w' ⟨rfl, rfl⟩
      go_wp2
      go_ret
      first | exact ⟨rfl, rfl⟩ | exact ⟨ret_int (by decide), rfl⟩
  · have HP := Lib.hid (show intP n = -1 by unfold intP; repeat (rw [if_neg (by omega)]))
    by_cases h0 : n < 0
    · go_enter Try.func49, Try.ntmps49
      go_wp2
      go_ret
      exact ⟨ret_int HP.out.symm, rfl⟩
    · have h7 : (7 : Int) < n := by omega
      clear h
      go_enter Try.func49, Try.ntmps49
      go_wp2
      go_ret
      exact ⟨ret_int HP.out.symm, rfl⟩

end Go.Proofs.Ytbbbnnkkjgikbaa
