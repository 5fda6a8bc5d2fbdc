/- Binomials up to 30 and the counts of chapter 29, both functions (written by tools/mk29b.py). -/
import Derived.Test.YtpggglcjocnjlaaGreatSpec2A
namespace Go.Proofs.YtpggglcjocnjlaaGreat
open Go.ChangeShapes Go.WideShapes Go.ChangeAt Go.RowKit
set_option linter.unusedVariables false

/-- A binomial number, step by step. -/
def bo (n : Nat) : Nat → Int
  | 0 => 1
  | k + 1 => bo n k * ((n : Int) - k) / ((k : Int) + 1)
theorem bo_succ (n i : Nat) : bo n (i + 1) = bo n i * ((n : Int) - i) / ((i : Int) + 1) := rfl
theorem bo_all : ∀ n, n < 31 → ∀ k, k < 31 → 0 ≤ bo n k ∧ bo n k ≤ 155117520 := by decide +kernel
theorem bo_bd (n k : Nat) (h : n ≤ 30) (hk : k ≤ 30) : 0 ≤ bo n k ∧ bo n k ≤ 155117520 := bo_all n (by omega) k (by omega)
/-- 0 for k out of range. -/
def boZ (n : Nat) (k : Int) : Int := if 0 ≤ k ∧ k ≤ (n : Int) then bo n k.toNat else 0
theorem boZ_bd (n : Nat) (k : Int) (h : n ≤ 30) : 0 ≤ boZ n k ∧ boZ n k ≤ 155117520 := by
  unfold boZ
  split
  · exact bo_bd n _ h (by omega)
  · omega
theorem l1In_is (x lo hi : Int) (w : World) : Calls Tryz.prog 37 #[.int .i64 x, .int .i64 lo, .int .i64 hi] w fun e w' => e = .returned (.bool (decide (lo ≤ x ∧ x ≤ hi))) ∧ w = w' := by
  by_cases h : lo ≤ x ∧ x ≤ hi
  · rw [decide_eq_true h]; exact l1In_yes x lo hi w h.1 h.2
  · rw [decide_eq_false h]
    by_cases h1 : lo ≤ x
    · exact l1In_no2 x lo hi w h1 (by omega)
    · exact l1In_no1 x lo hi w (by omega)

set_option maxRecDepth 100000 in
set_option maxHeartbeats 800000 in
theorem boS (n k : Nat) (w : World) (hn : n ≤ 30) (hk : k ≤ n) : Calls Tryz.prog 40 #[.int .i64 n, .int .i64 k] w fun e w' => e = .returned (.int .i64 (bo n k)) ∧ w = w' := by
  have hk0 : decide ((k : Int) < 0) = false := by simp
  have hk1 : decide ((n : Int) < (k : Int)) = false := by simp; omega
  have hk2 : decide (n < k) = false := by simp; omega
  go_enter Tryz.func40, Tryz.ntmps40
  go_wp2
  go_loop [5, 6] (fun x y => ∃ i : Nat, i ≤ k ∧ y = .int .i64 i ∧ x = .int .i64 (bo n i)) (fun _ y => k - (intOf y).toNat)
  case atStart => exact ⟨0, Nat.zero_le _, rfl, rfl⟩
  case round =>
    obtain ⟨i, hi, rfl, rfl⟩ := hrel
    by_cases hlt : i < k
    · have hii : (i : Int) < (k : Int) := by omega
      have HB := Lib.hid (bo_succ n i)
      obtain ⟨b0, b1⟩ := bo_bd n i hn (by omega)
      generalize bo n i = x at *
      have hd0 : 0 ≤ (n : Int) - (i : Int) ∧ (n : Int) - (i : Int) ≤ 30 := by omega
      have hm0 : 0 ≤ x * ((n : Int) - (i : Int)) := Int.mul_nonneg b0 hd0.1
      have hm1 : x * ((n : Int) - (i : Int)) ≤ 155117520 * 30 := Int.mul_le_mul b1 hd0.2 hd0.1 (by decide)
      have hne : ((i : Int) + 1 == 0) = false := beq_eq_false_iff_ne.2 (by omega)
      have hw1 : IntKind.i64.wrap (x * ((n : Int) - (i : Int))) = x * ((n : Int) - (i : Int)) := IntWalk.i64_in _ (by omega)
      go_wp2
      exact ⟨⟨i + 1, by omega, by simp, by rw [HB.out]⟩, by simp [intOf]; omega⟩
    · obtain rfl : i = k := by omega
      go_wp2
      go_ret
      exact ⟨rfl, rfl⟩

set_option maxRecDepth 100000 in
set_option maxHeartbeats 800000 in
theorem boI (n k : Nat) (w : World) (hn : n ≤ 30) (hk : k ≤ n) : Calls Tryz.prog 38 #[.int .i64 n, .int .i64 k] w fun e w' => e = .returned (.int .i64 (bo n k)) ∧ w = w' := by
  have hk0 : decide ((k : Int) < 0) = false := by simp
  have hk1 : decide ((n : Int) < (k : Int)) = false := by simp; omega
  have hk2 : decide (n < k) = false := by simp; omega
  go_enter Tryz.func38, Tryz.ntmps38
  go_wp2
  go_loop [5, 15] (fun x y => ∃ i : Nat, i ≤ k ∧ y = .int .i64 i ∧ x = .int .i64 (bo n i)) (fun _ y => k - (intOf y).toNat)
  case atStart => exact ⟨0, Nat.zero_le _, rfl, rfl⟩
  case round =>
    obtain ⟨i, hi, rfl, rfl⟩ := hrel
    by_cases hlt : i < k
    · have hii : (i : Int) < (k : Int) := by omega
      have HB := Lib.hid (bo_succ n i)
      obtain ⟨b0, b1⟩ := bo_bd n i hn (by omega)
      generalize bo n i = x at *
      have hd0 : 0 ≤ (n : Int) - (i : Int) ∧ (n : Int) - (i : Int) ≤ 30 := by omega
      have hm0 : 0 ≤ x * ((n : Int) - (i : Int)) := Int.mul_nonneg b0 hd0.1
      have hm1 : x * ((n : Int) - (i : Int)) ≤ 155117520 * 30 := Int.mul_le_mul b1 hd0.2 hd0.1 (by decide)
      have hne : ((i : Int) + 1 == 0) = false := beq_eq_false_iff_ne.2 (by omega)
      have hw1 : IntKind.i64.wrap (x * ((n : Int) - (i : Int))) = x * ((n : Int) - (i : Int)) := IntWalk.i64_in _ (by omega)
      go_wp2
      exact ⟨⟨i + 1, by omega, by simp, by rw [HB.out]⟩, by simp [intOf]; omega⟩
    · obtain rfl : i = k := by omega
      go_wp2
      go_ret
      exact ⟨rfl, rfl⟩

set_option maxRecDepth 100000 in
theorem boIZ (n : Nat) (k : Int) (w : World) (hn : n ≤ 30) : Calls Tryz.prog 38 #[.int .i64 n, .int .i64 k] w fun e w' => e = .returned (.int .i64 (boZ n k)) ∧ w = w' := by
  by_cases h : 0 ≤ k ∧ k ≤ (n : Int)
  · have HP : boZ n k = bo n k.toNat := if_pos h
    obtain ⟨q, rfl⟩ : ∃ q : Nat, k = q := ⟨k.toNat, by omega⟩
    rw [HP, Int.toNat_natCast]
    exact boI n q w hn (by omega)
  · have HP := Lib.hid (show boZ n k = 0 from if_neg h)
    by_cases h0 : k < 0
    · have hd : decide (k < 0) = true := decide_eq_true h0
      clear h
      go_enter Tryz.func38, Tryz.ntmps38
      go_wp2
      go_ret
      exact ⟨ret_int HP.out.symm, rfl⟩
    · have h1 : (n : Int) < k := by omega
      have hd : decide (k < 0) = false := decide_eq_false h0
      have hd1 : decide ((n : Int) < k) = true := decide_eq_true h1
      clear h
      go_enter Tryz.func38, Tryz.ntmps38
      go_wp2
      go_ret
      exact ⟨ret_int HP.out.symm, rfl⟩

def cwP (u d : Int) : Int := if 0 ≤ u ∧ u ≤ 15 ∧ 0 ≤ d ∧ d ≤ 15 then bo (u + d).toNat u.toNat else -1
theorem cwP_bd (u d : Int) : -1 ≤ cwP u d ∧ cwP u d ≤ 155117520 := by
  unfold cwP
  split
  · have := bo_bd (u + d).toNat u.toNat (by omega) (by omega)
    omega
  · omega
theorem sum_at (f : Nat) (a b : Nat) (w : World) {r : Int} (h : Calls Tryz.prog f #[.int .i64 ((a + b : Nat) : Int), .int .i64 a] w fun e w' => e = .returned (.int .i64 r) ∧ w = w') : Calls Tryz.prog f #[.int .i64 ((a : Int) + (b : Int)), .int .i64 a] w fun e w' => e = .returned (.int .i64 r) ∧ w = w' := by
  rwa [Int.natCast_add] at h
theorem cw_yes (a b : Nat) (h1 : a ≤ 15) (h2 : b ≤ 15) : cwP a b = bo (a + b) a := by
  unfold cwP
  rw [if_pos (by omega)]
  congr 1

set_option maxRecDepth 100000 in
set_option maxHeartbeats 800000 in
theorem countWords (u d : Int) (w : World) : Calls Tryz.prog 25 #[.int .i64 u, .int .i64 d] w fun e w' => e = .returned (.int .i64 (cwP u d)) ∧ w = w' := by
  have HA := Lib.hid (fun W => l1In_is u 0 15 W)
  have HB := Lib.hid (fun W => l1In_is d 0 15 W)
  by_cases h1 : 0 ≤ u ∧ u ≤ 15
  · rw [decide_eq_true h1] at HA
    by_cases h2 : 0 ≤ d ∧ d ≤ 15
    · rw [decide_eq_true h2] at HB
      obtain ⟨a, rfl⟩ : ∃ a : Nat, u = a := ⟨u.toNat, by omega⟩
      obtain ⟨b, rfl⟩ : ∃ b : Nat, d = b := ⟨d.toNat, by omega⟩
      have HP := Lib.hid (cw_yes a b (by omega) (by omega))
      have HC := Lib.hid (fun W => sum_at 40 a b W (boS (a + b) a W (by omega) (by omega)))
      have hw1 : IntKind.i64.wrap ((a : Int) + (b : Int)) = (a : Int) + (b : Int) := IntWalk.i64_in _ (by omega)
      clear h1 h2
      go_enter Tryz.func25, Tryz.ntmps25
      go_wp2_with fail
      (with_reducible refine (HA.out _).mono ?_)
      rintro e w' ⟨rfl, rfl⟩
      go_wp2_with fail
      (with_reducible refine (HB.out _).mono ?_)
      rintro e w' ⟨rfl, rfl⟩
      go_wp2_with fail
      (with_reducible refine (HC.out _).mono ?_)
      rintro e w' ⟨rfl, rfl⟩
      go_wp2
      go_ret
      exact ⟨ret_int HP.out.symm, rfl⟩
    · rw [decide_eq_false h2] at HB
      have HP := Lib.hid (show cwP u d = -1 from if_neg (by omega))
      clear h1 h2
      go_enter Tryz.func25, Tryz.ntmps25
      go_wp2_with fail
      (with_reducible refine (HA.out _).mono ?_)
      rintro e w' ⟨rfl, rfl⟩
      go_wp2_with fail
      (with_reducible refine (HB.out _).mono ?_)
      rintro e w' ⟨rfl, rfl⟩
      go_wp2
      go_ret
      exact ⟨ret_int HP.out.symm, rfl⟩
  · rw [decide_eq_false h1] at HA
    have HP := Lib.hid (show cwP u d = -1 from if_neg (by omega))
    clear h1
    go_enter Tryz.func25, Tryz.ntmps25
    go_wp2_with fail
    (with_reducible refine (HA.out _).mono ?_)
    rintro e w' ⟨rfl, rfl⟩
    go_wp2
    go_ret
    exact ⟨ret_int HP.out.symm, rfl⟩

set_option maxRecDepth 100000 in
set_option maxHeartbeats 800000 in
theorem countWordsI (u d : Int) (w : World) : Calls Tryz.prog 16 #[.int .i64 u, .int .i64 d] w fun e w' => e = .returned (.int .i64 (cwP u d)) ∧ w = w' := by
  by_cases h1 : 0 ≤ u ∧ u ≤ 15 ∧ 0 ≤ d ∧ d ≤ 15
  · obtain ⟨a, rfl⟩ : ∃ a : Nat, u = a := ⟨u.toNat, by omega⟩
    obtain ⟨b, rfl⟩ : ∃ b : Nat, d = b := ⟨d.toNat, by omega⟩
    have HP := Lib.hid (cw_yes a b (by omega) (by omega))
    have HC := Lib.hid (fun W => sum_at 38 a b W (boI (a + b) a W (by omega) (by omega)))
    have hw1 : IntKind.i64.wrap ((a : Int) + (b : Int)) = (a : Int) + (b : Int) := IntWalk.i64_in _ (by omega)
    have d1 : decide ((a : Int) < 0) = false := decide_eq_false (by omega)
    have d2 : decide ((b : Int) < 0) = false := decide_eq_false (by omega)
    have d3 : decide ((15 : Int) < (a : Int)) = false := decide_eq_false (by omega)
    have d4 : decide ((15 : Int) < (b : Int)) = false := decide_eq_false (by omega)
    have d5 : decide (15 < a) = false := decide_eq_false (by omega)
    have d6 : decide (15 < b) = false := decide_eq_false (by omega)
    clear h1
    go_enter Tryz.func16, Tryz.ntmps16
    go_wp2_with fail
    (with_reducible refine (HC.out _).mono ?_)
    rintro e w' ⟨rfl, rfl⟩
    go_wp2
    go_ret
    exact ⟨ret_int HP.out.symm, rfl⟩
  · have HP := Lib.hid (show cwP u d = -1 from if_neg h1)
    by_cases a1 : u < 0
    · have d1 : decide (u < 0) = true := decide_eq_true a1
      clear h1
      go_enter Tryz.func16, Tryz.ntmps16
      go_wp2
      go_ret
      exact ⟨ret_int HP.out.symm, rfl⟩
    · have d1 : decide (u < 0) = false := decide_eq_false a1
      by_cases a2 : 15 < u
      · have d2 : decide (15 < u) = true := decide_eq_true a2
        clear h1
        go_enter Tryz.func16, Tryz.ntmps16
        go_wp2
        go_ret
        exact ⟨ret_int HP.out.symm, rfl⟩
      · have d2 : decide (15 < u) = false := decide_eq_false a2
        by_cases a3 : d < 0
        · have d3 : decide (d < 0) = true := decide_eq_true a3
          clear h1
          go_enter Tryz.func16, Tryz.ntmps16
          go_wp2
          go_ret
          exact ⟨ret_int HP.out.symm, rfl⟩
        · have d3 : decide (d < 0) = false := decide_eq_false a3
          have a4 : 15 < d := by omega
          have d4 : decide (15 < d) = true := decide_eq_true a4
          clear h1
          go_enter Tryz.func16, Tryz.ntmps16
          go_wp2
          go_ret
          exact ⟨ret_int HP.out.symm, rfl⟩

def cbP (n : Int) : Int := if 0 ≤ n ∧ n ≤ 14 then (if n = 0 then 0 else cwP (n - 1) (n + 1)) else -1
set_option maxRecDepth 100000 in
set_option maxHeartbeats 800000 in
theorem countBad (n : Int) (w : World) : Calls Tryz.prog 15 #[.int .i64 n] w fun e w' => e = .returned (.int .i64 (cbP n)) ∧ w = w' := by
  have HA := Lib.hid (fun W => l1In_is n 0 14 W)
  by_cases h1 : 0 ≤ n ∧ n ≤ 14
  · rw [decide_eq_true h1] at HA
    by_cases h0 : n = 0
    · subst h0
      have HP := Lib.hid (show cbP 0 = 0 from rfl)
      clear h1
      go_enter Tryz.func15, Tryz.ntmps15
      go_wp2_with fail
      (with_reducible refine (HA.out _).mono ?_)
      rintro e w' ⟨rfl, rfl⟩
      go_wp2
      go_ret
      exact ⟨ret_int HP.out.symm, rfl⟩
    · have hz : (n == 0) = false := beq_eq_false_iff_ne.2 h0
      have HP := Lib.hid (show cbP n = cwP (n - 1) (n + 1) by unfold cbP; rw [if_pos h1, if_neg h0])
      have HC := Lib.hid (fun W => countWords (n - 1) (n + 1) W)
      have hw1 : IntKind.i64.wrap (n - 1) = n - 1 := IntWalk.i64_in _ (by omega)
      have hw2 : IntKind.i64.wrap (n + 1) = n + 1 := IntWalk.i64_in _ (by omega)
      go_enter Tryz.func15, Tryz.ntmps15
      go_wp2_with fail
      (with_reducible refine (HA.out _).mono ?_)
      rintro e w' ⟨rfl, rfl⟩
      go_wp2_with fail
      (with_reducible refine (HC.out _).mono ?_)
      rintro e w' ⟨rfl, rfl⟩
      go_wp2
      go_ret
      exact ⟨ret_int HP.out.symm, rfl⟩
  · rw [decide_eq_false h1] at HA
    have HP := Lib.hid (show cbP n = -1 from if_neg h1)
    clear h1
    go_enter Tryz.func15, Tryz.ntmps15
    go_wp2_with fail
    (with_reducible refine (HA.out _).mono ?_)
    rintro e w' ⟨rfl, rfl⟩
    go_wp2
    go_ret
    exact ⟨ret_int HP.out.symm, rfl⟩

/-- What countReflected answers. -/
def crP (u d : Int) : Int := if u = 0 then 0 else cwP (u - 1) (d + 1)
set_option maxRecDepth 100000 in
set_option maxHeartbeats 800000 in
theorem countReflectedI (u d : Int) (w : World) (hu : -1000 ≤ u ∧ u ≤ 1000) (hd : -1000 ≤ d ∧ d ≤ 1000) : Calls Tryz.prog 36 #[.int .i64 u, .int .i64 d] w fun e w' => e = .returned (.int .i64 (crP u d)) ∧ w = w' := by
  by_cases h0 : u = 0
  · subst h0
    have HP := Lib.hid (show crP 0 d = 0 from rfl)
    go_enter Tryz.func36, Tryz.ntmps36
    go_wp2
    go_ret
    exact ⟨ret_int HP.out.symm, rfl⟩
  · have hz : (u == 0) = false := beq_eq_false_iff_ne.2 h0
    have HP := Lib.hid (show crP u d = cwP (u - 1) (d + 1) from if_neg h0)
    have HC := Lib.hid (fun W => countWordsI (u - 1) (d + 1) W)
    have hw1 : IntKind.i64.wrap (u - 1) = u - 1 := IntWalk.i64_in _ (by omega)
    have hw2 : IntKind.i64.wrap (d + 1) = d + 1 := IntWalk.i64_in _ (by omega)
    go_enter Tryz.func36, Tryz.ntmps36
    go_wp2_with fail
    (with_reducible refine (HC.out _).mono ?_)
    rintro e w' ⟨rfl, rfl⟩
    go_wp2
    go_ret
    exact ⟨ret_int HP.out.symm, rfl⟩
set_option maxRecDepth 100000 in
set_option maxHeartbeats 800000 in
theorem countBadI (n : Int) (w : World) : Calls Tryz.prog 14 #[.int .i64 n] w fun e w' => e = .returned (.int .i64 (cbP n)) ∧ w = w' := by
  by_cases h0 : n < 0
  · have d1 : decide (n < 0) = true := decide_eq_true h0
    have HP := Lib.hid (show cbP n = -1 from if_neg (by omega))
    go_enter Tryz.func14, Tryz.ntmps14
    go_wp2
    go_ret
    exact ⟨ret_int HP.out.symm, rfl⟩
  · have d1 : decide (n < 0) = false := decide_eq_false h0
    by_cases h1 : 14 < n
    · have d2 : decide (14 < n) = true := decide_eq_true h1
      have HP := Lib.hid (show cbP n = -1 from if_neg (by omega))
      go_enter Tryz.func14, Tryz.ntmps14
      go_wp2
      go_ret
      exact ⟨ret_int HP.out.symm, rfl⟩
    · have d2 : decide (14 < n) = false := decide_eq_false h1
      have HP := Lib.hid (show cbP n = crP n n by unfold cbP crP; rw [if_pos (by omega)])
      have HC := Lib.hid (fun W => countReflectedI n n W (by omega) (by omega))
      go_enter Tryz.func14, Tryz.ntmps14
      go_wp2_with fail
      (with_reducible refine (HC.out _).mono ?_)
      rintro e w' ⟨rfl, rfl⟩
      go_wp2
      go_ret
      exact ⟨ret_int HP.out.symm, rfl⟩

def blrP (u d : Int) : Int := if 0 ≤ u ∧ u ≤ 14 ∧ u ≤ d ∧ d ≤ 14 then cwP u d - crP u d else 0
theorem blr_zero (d : Int) (h : 0 ≤ d) (h1 : d ≤ 14) : blrP 0 d = 1 := by
  obtain ⟨b, rfl⟩ : ∃ b : Nat, d = b := ⟨d.toNat, by omega⟩
  unfold blrP
  rw [if_pos (by omega), show cwP 0 (b : Int) = bo (0 + b) 0 from cw_yes 0 b (by omega) (by omega)]
  show bo (0 + b) 0 - crP 0 b = 1
  unfold crP; rw [if_pos rfl]; rfl
set_option maxRecDepth 100000 in
set_option maxHeartbeats 800000 in
theorem ballotByReflection (u d : Int) (w : World) : Calls Tryz.prog 27 #[.int .i64 u, .int .i64 d] w fun e w' => e = .returned (.int .i64 (blrP u d)) ∧ w = w' := by
  have HA := Lib.hid (fun W => l1In_is u 0 14 W)
  have HB := Lib.hid (fun W => l1In_is d u 14 W)
  by_cases h1 : 0 ≤ u ∧ u ≤ 14
  · rw [decide_eq_true h1] at HA
    by_cases h2 : u ≤ d ∧ d ≤ 14
    · rw [decide_eq_true h2] at HB
      by_cases h0 : u = 0
      · subst h0
        have HP := Lib.hid (blr_zero d h2.1 h2.2)
        clear h1 h2
        go_enter Tryz.func27, Tryz.ntmps27
        go_wp2_with fail
        (with_reducible refine (HA.out _).mono ?_)
        rintro e w' ⟨rfl, rfl⟩
        go_wp2_with fail
        (with_reducible refine (HB.out _).mono ?_)
        rintro e w' ⟨rfl, rfl⟩
        go_wp2
        go_ret
        exact ⟨ret_int HP.out.symm, rfl⟩
      · have hz : (u == 0) = false := beq_eq_false_iff_ne.2 h0
        have HP := Lib.hid (show blrP u d = cwP u d - cwP (u - 1) (d + 1) by unfold blrP crP; rw [if_pos (by omega), if_neg h0])
        have HC := Lib.hid (fun W => countWords u d W)
        have HD := Lib.hid (fun W => countWords (u - 1) (d + 1) W)
        have hw1 : IntKind.i64.wrap (u - 1) = u - 1 := IntWalk.i64_in _ (by omega)
        have hw2 : IntKind.i64.wrap (d + 1) = d + 1 := IntWalk.i64_in _ (by omega)
        have b1 := cwP_bd u d
        have b2 := cwP_bd (u - 1) (d + 1)
        generalize cwP u d = X at *
        generalize cwP (u - 1) (d + 1) = Y at *
        have hw3 : IntKind.i64.wrap (X - Y) = X - Y := IntWalk.i64_in _ (by omega)
        clear h0
        go_enter Tryz.func27, Tryz.ntmps27
        go_wp2_with fail
        (with_reducible refine (HA.out _).mono ?_)
        rintro e w' ⟨rfl, rfl⟩
        go_wp2_with fail
        (with_reducible refine (HB.out _).mono ?_)
        rintro e w' ⟨rfl, rfl⟩
        go_wp2_with fail
        (with_reducible refine (HC.out _).mono ?_)
        rintro e w' ⟨rfl, rfl⟩
        go_wp2_with fail
        (with_reducible refine (HD.out _).mono ?_)
        rintro e w' ⟨rfl, rfl⟩
        go_wp2
        go_ret
        exact ⟨ret_int HP.out.symm, rfl⟩
    · rw [decide_eq_false h2] at HB
      have HP := Lib.hid (show blrP u d = 0 from if_neg (by omega))
      clear h2
      go_enter Tryz.func27, Tryz.ntmps27
      go_wp2_with fail
      (with_reducible refine (HA.out _).mono ?_)
      rintro e w' ⟨rfl, rfl⟩
      go_wp2_with fail
      (with_reducible refine (HB.out _).mono ?_)
      rintro e w' ⟨rfl, rfl⟩
      go_wp2
      go_ret
      exact ⟨ret_int HP.out.symm, rfl⟩
  · rw [decide_eq_false h1] at HA
    have HP := Lib.hid (show blrP u d = 0 from if_neg (by omega))
    clear h1
    go_enter Tryz.func27, Tryz.ntmps27
    go_wp2_with fail
    (with_reducible refine (HA.out _).mono ?_)
    rintro e w' ⟨rfl, rfl⟩
    go_wp2
    go_ret
    exact ⟨ret_int HP.out.symm, rfl⟩
set_option maxRecDepth 100000 in
set_option maxHeartbeats 800000 in
theorem ballotByReflectionI (u d : Int) (w : World) : Calls Tryz.prog 26 #[.int .i64 u, .int .i64 d] w fun e w' => e = .returned (.int .i64 (blrP u d)) ∧ w = w' := by
  by_cases h1 : u < 0
  · have d1 : decide (u < 0) = true := decide_eq_true h1
    have HP := Lib.hid (show blrP u d = 0 from if_neg (by omega))
    go_enter Tryz.func26, Tryz.ntmps26
    go_wp2
    go_ret
    exact ⟨ret_int HP.out.symm, rfl⟩
  · have d1 : decide (u < 0) = false := decide_eq_false h1
    by_cases h2 : d < u
    · have d2 : decide (d < u) = true := decide_eq_true h2
      have HP := Lib.hid (show blrP u d = 0 from if_neg (by omega))
      go_enter Tryz.func26, Tryz.ntmps26
      go_wp2
      go_ret
      exact ⟨ret_int HP.out.symm, rfl⟩
    · have d2 : decide (d < u) = false := decide_eq_false h2
      by_cases h3 : 14 < d
      · have d3 : decide (14 < d) = true := decide_eq_true h3
        have HP := Lib.hid (show blrP u d = 0 from if_neg (by omega))
        go_enter Tryz.func26, Tryz.ntmps26
        go_wp2
        go_ret
        exact ⟨ret_int HP.out.symm, rfl⟩
      · have d3 : decide (14 < d) = false := decide_eq_false h3
        have HP := Lib.hid (show blrP u d = cwP u d - crP u d from if_pos (by omega))
        have HC := Lib.hid (fun W => countWordsI u d W)
        have HD := Lib.hid (fun W => countReflectedI u d W (by omega) (by omega))
        have b1 := cwP_bd u d
        have b2 : -1 ≤ crP u d ∧ crP u d ≤ 155117520 := by
          unfold crP
          split
          · omega
          · exact cwP_bd _ _
        generalize cwP u d = X at *
        generalize crP u d = Y at *
        have hw3 : IntKind.i64.wrap (X - Y) = X - Y := IntWalk.i64_in _ (by omega)
        go_enter Tryz.func26, Tryz.ntmps26
        go_wp2_with fail
        (with_reducible refine (HC.out _).mono ?_)
        rintro e w' ⟨rfl, rfl⟩
        go_wp2_with fail
        (with_reducible refine (HD.out _).mono ?_)
        rintro e w' ⟨rfl, rfl⟩
        go_wp2
        go_ret
        exact ⟨ret_int HP.out.symm, rfl⟩

end Go.Proofs.YtpggglcjocnjlaaGreat
