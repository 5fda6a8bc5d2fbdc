/- Binomials up to 30, both functions (out of Bin29; never beside it). -/
import Derived.Test.YtbnhjecapodflaaSpec2A
namespace Go.Proofs.Ytbnhjecapodflaa
open Go.ChangeShapes Go.WideShapes Go.ChangeAt Go.RowKit
set_option linter.unusedVariables false

/-- A binomial number, step by step. -/
def bo (n : Nat) : Nat → Int
  | 0 => 1
  | k + 1 => bo n k * ((n : Int) - k) / ((k : Int) + 1)
theorem bo_succ (n i : Nat) : bo n (i + 1) = bo n i * ((n : Int) - i) / ((i : Int) + 1) := rfl
theorem bo_all : ∀ n, n < 31 → ∀ k, k < 31 → 0 ≤ bo n k ∧ bo n k ≤ 155117520 := by decide +kernel
theorem bo_bd (n k : Nat) (h : n ≤ 30) (hk : k ≤ 30) : 0 ≤ bo n k ∧ bo n k ≤ 155117520 := bo_all n (by omega) k (by omega)
set_option maxRecDepth 100000 in
set_option maxHeartbeats 800000 in
theorem boS (n k : Nat) (w : World) (hn : n ≤ 30) (hk : k ≤ n) : Calls Try.prog 27 #[.int .i64 n, .int .i64 k] w fun e w' => e = .returned (.int .i64 (bo n k)) ∧ w = w' := by
  have hk0 : decide ((k : Int) < 0) = false := by simp
  have hk1 : decide ((n : Int) < (k : Int)) = false := by simp; omega
  have hk2 : decide (n < k) = false := by simp; omega
  go_enter Try.func27, Try.ntmps27
  go_wp2
  go_loop [5, 6] (fun x y => ∃ i : Nat, i ≤ k ∧ y = .int .i64 i ∧ x = .int .i64 (bo n i)) (fun _ y => k - (intOf y).toNat)
  case atStart => exact ⟨0, Nat.zero_le _, rfl, rfl⟩
  case round =>
    obtain ⟨i, hi, rfl, rfl⟩ := hrel
    by_cases hlt : i < k
    · have hii : (i : Int) < (k : Int) := by omega
      have HB := Lib.hid (bo_succ n i)
      obtain ⟨b0, b1⟩ := bo_bd n i hn (by omega)
      generalize bo n i = x at *
      have hd0 : 0 ≤ (n : Int) - (i : Int) ∧ (n : Int) - (i : Int) ≤ 30 := by omega
      have hm0 : 0 ≤ x * ((n : Int) - (i : Int)) := Int.mul_nonneg b0 hd0.1
      have hm1 : x * ((n : Int) - (i : Int)) ≤ 155117520 * 30 := Int.mul_le_mul b1 hd0.2 hd0.1 (by decide)
      have hne : ((i : Int) + 1 == 0) = false := beq_eq_false_iff_ne.2 (by omega)
      have hw1 : IntKind.i64.wrap (x * ((n : Int) - (i : Int))) = x * ((n : Int) - (i : Int)) := IntWalk.i64_in _ (by omega)
      go_wp2
      exact ⟨⟨i + 1, by omega, by simp, by rw [HB.out]⟩, by simp [intOf]; omega⟩
    · obtain rfl : i = k := by omega
      go_wp2
      go_ret
      exact ⟨rfl, rfl⟩

set_option maxRecDepth 100000 in
set_option maxHeartbeats 800000 in
theorem boI (n k : Nat) (w : World) (hn : n ≤ 30) (hk : k ≤ n) : Calls Try.prog 29 #[.int .i64 n, .int .i64 k] w fun e w' => e = .returned (.int .i64 (bo n k)) ∧ w = w' := by
  have hk0 : decide ((k : Int) < 0) = false := by simp
  have hk1 : decide ((n : Int) < (k : Int)) = false := by simp; omega
  have hk2 : decide (n < k) = false := by simp; omega
  go_enter Try.func29, Try.ntmps29
  go_wp2
  go_loop [5, 15] (fun x y => ∃ i : Nat, i ≤ k ∧ y = .int .i64 i ∧ x = .int .i64 (bo n i)) (fun _ y => k - (intOf y).toNat)
  case atStart => exact ⟨0, Nat.zero_le _, rfl, rfl⟩
  case round =>
    obtain ⟨i, hi, rfl, rfl⟩ := hrel
    by_cases hlt : i < k
    · have hii : (i : Int) < (k : Int) := by omega
      have HB := Lib.hid (bo_succ n i)
      obtain ⟨b0, b1⟩ := bo_bd n i hn (by omega)
      generalize bo n i = x at *
      have hd0 : 0 ≤ (n : Int) - (i : Int) ∧ (n : Int) - (i : Int) ≤ 30 := by omega
      have hm0 : 0 ≤ x * ((n : Int) - (i : Int)) := Int.mul_nonneg b0 hd0.1
      have hm1 : x * ((n : Int) - (i : Int)) ≤ 155117520 * 30 := Int.mul_le_mul b1 hd0.2 hd0.1 (by decide)
      have hne : ((i : Int) + 1 == 0) = false := beq_eq_false_iff_ne.2 (by omega)
      have hw1 : IntKind.i64.wrap (x * ((n : Int) - (i : Int))) = x * ((n : Int) - (i : Int)) := IntWalk.i64_in _ (by omega)
      go_wp2
      exact ⟨⟨i + 1, by omega, by simp, by rw [HB.out]⟩, by simp [intOf]; omega⟩
    · obtain rfl : i = k := by omega
      go_wp2
      go_ret
      exact ⟨rfl, rfl⟩

/-- A call that leaves the world as it is, within a region that only draws. -/
theorem still_on {P : Program} {f : Nat} {args : Array Value} {w : World} {n : Nat} {v : Value} (h : Calls P f args (w.drewN n) fun e w' => e = .returned v ∧ w.drewN n = w') : Calls P f args (w.drewN n) fun e w' => e = .returned v ∧ ∃ m, w' = w.drewN m :=
  h.mono fun e w' h => ⟨h.1, n, h.2.symm⟩

end Go.Proofs.Ytbnhjecapodflaa
