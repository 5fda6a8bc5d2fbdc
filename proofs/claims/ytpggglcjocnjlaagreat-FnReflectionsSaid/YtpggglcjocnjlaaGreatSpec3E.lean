/- The contract of the model's NarayanaNumber. -/
import Derived.Test.YtpggglcjocnjlaaGreatSpec2A
namespace Go.Proofs.YtpggglcjocnjlaaGreat
open Go.ChangeShapes Go.WideShapes Go.ChangeAt Go.RowKit
set_option linter.unusedVariables false

/-- A binomial number, step by step. -/
def bn (n : Nat) : Nat → Int
  | 0 => 1
  | i + 1 => bn n i * ((n : Int) - i) / ((i : Int) + 1)
theorem bn_zero (n : Nat) : bn n 0 = 1 := rfl
theorem bn_succ (n i : Nat) : bn n (i + 1) = bn n i * ((n : Int) - i) / ((i : Int) + 1) := rfl
set_option maxRecDepth 100000 in
theorem bn_all : ∀ n, n < 16 → ∀ k, k < 16 → 0 ≤ bn n k ∧ bn n k ≤ 6435 := by decide
theorem bn_bd (n k : Nat) (h : n ≤ 15) (hk : k ≤ 15) : 0 ≤ bn n k ∧ bn n k ≤ 6435 := bn_all n (by omega) k (by omega)

set_option maxRecDepth 100000 in
set_option maxHeartbeats 800000 in
theorem l3Binomial (n k : Nat) (w : World) (hn : n ≤ 15) (hk : k ≤ n) : Calls Tryz.prog 40 #[.int .i64 n, .int .i64 k] w fun e w' => e = .returned (.int .i64 (bn n k)) ∧ w = w' := by
  go_enter Tryz.func40, Tryz.ntmps40
  go_wp2
  go_loop [5, 6] (fun x y => ∃ i : Nat, i ≤ k ∧ y = .int .i64 i ∧ x = .int .i64 (bn n i)) (fun _ y => k - (intOf y).toNat)
  case atStart => exact ⟨0, Nat.zero_le _, rfl, rfl⟩
  case round =>
    obtain ⟨i, hi, rfl, rfl⟩ := hrel
    by_cases hlt : i < k
    · have hii : (i : Int) < (k : Int) := by omega
      have HB := Lib.hid (bn_succ n i)
      obtain ⟨b0, b1⟩ := bn_bd n i hn (by omega)
      generalize bn n i = x at *
      have hd0 : 0 ≤ (n : Int) - (i : Int) ∧ (n : Int) - (i : Int) ≤ 15 := by omega
      have hm0 : 0 ≤ x * ((n : Int) - (i : Int)) := Int.mul_nonneg b0 hd0.1
      have hm1 : x * ((n : Int) - (i : Int)) ≤ 6435 * 15 := Int.mul_le_mul b1 hd0.2 hd0.1 (by decide)
      have hne : ((i : Int) + 1 == 0) = false := beq_eq_false_iff_ne.2 (by omega)
      have hw1 : IntKind.i64.wrap (x * ((n : Int) - (i : Int))) = x * ((n : Int) - (i : Int)) := IntWalk.i64_in _ (by omega)
      go_wp2
      exact ⟨⟨i + 1, by omega, by simp, by rw [HB.out]⟩, by simp [intOf]; omega⟩
    · obtain rfl : i = k := by omega
      go_wp2
      go_ret
      exact ⟨rfl, rfl⟩

def narP (n k : Int) : Int := if 0 ≤ n ∧ n ≤ 15 ∧ 0 ≤ k ∧ k ≤ n then (if n = 0 then 1 else if k = 0 then 0 else bn n.toNat k.toNat * bn n.toNat (k.toNat - 1) / n) else 0

end Go.Proofs.YtpggglcjocnjlaaGreat
