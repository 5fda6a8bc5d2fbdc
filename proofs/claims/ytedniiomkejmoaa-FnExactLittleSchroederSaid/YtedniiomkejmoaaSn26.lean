/- SchroederNumber and LittleSchroeder, both functions. -/
import Derived.Test.YtedniiomkejmoaaSml25
import Derived.Test.YtedniiomkejmoaaBin30
import Derived.Test.YtedniiomkejmoaaSpec3C
namespace Go.Proofs.Ytedniiomkejmoaa
open Go.ChangeShapes Go.WideShapes Go.ChangeAt Go.RowKit
set_option linter.unusedVariables false

theorem sml2 : Sml (wl 2) := sml_of 2 (by decide) (by decide) (by decide +kernel)
def catL : List Int := [1, 1, 2, 5, 14, 42, 132, 429, 1430, 4862, 16796, 58786, 208012]
theorem cat_tab : ∀ k : Nat, k < 13 → catP (k : Int) = catL.getD k 0 := by decide +kernel
def snS (n : Nat) : Nat → Int
  | 0 => 0
  | k + 1 => snS n k + catL.getD k 0 * bo (n + k) (n - k)
theorem sn_bd : ∀ n, n < 13 → ∀ k, k < 14 → 0 ≤ snS n k ∧ snS n k ≤ 1000000000000 := by decide +kernel
theorem sn_cv : ∀ n, n < 13 → snS n (n + 1) = cv (wl 2) (2 * n) 0 := by decide +kernel
theorem sn_two : ∀ n, n < 13 → 1 ≤ n → 2 ≤ snS n (n + 1) := by decide +kernel
def snP (n : Int) : Int := if 0 ≤ n ∧ n ≤ 12 then snS n.toNat (n.toNat + 1) else -1
def lsP (n : Int) : Int := if n = 0 ∨ snP n < 0 then snP n else snP n / 2
theorem snP_out {n : Int} (h : ¬ (0 ≤ n ∧ n ≤ 12)) : snP n = -1 := if_neg h
theorem snP_big {n : Int} (h1 : 1 ≤ n) (h2 : n ≤ 12) : 2 ≤ snP n ∧ snP n ≤ 1000000000000 := by
  unfold snP
  rw [if_pos (by omega)]
  exact ⟨sn_two _ (by omega) (by omega), (sn_bd _ (by omega) _ (by omega)).2⟩
theorem snP_zero : snP 0 = 1 := by decide +kernel

set_option maxRecDepth 100000 in
set_option maxHeartbeats 1600000 in
theorem schroederNumberI (n : Int) (w : World) : Calls Try.prog 12 #[.int .i64 n] w fun e w' => e = .returned (.int .i64 (snP n)) ∧ Below w.heap.size w w' := by
  by_cases h0 : n < 0
  · have HP := Lib.hid (snP_out (n := n) (by omega))
    have d0 : decide (n < 0) = true := decide_eq_true h0
    go_enter Try.func12, Try.ntmps12
    go_wp2
    go_ret
    exact ⟨ret_int HP.out.symm, Below.refl _ _⟩
  have d0 : decide (n < 0) = false := decide_eq_false h0
  by_cases h1 : 12 < n
  · have HP := Lib.hid (snP_out (n := n) (by omega))
    have d1 : decide (12 < n) = true := decide_eq_true h1
    go_enter Try.func12, Try.ntmps12
    go_wp2
    go_ret
    exact ⟨ret_int HP.out.symm, Below.refl _ _⟩
  have d1 : decide (12 < n) = false := decide_eq_false h1
  obtain ⟨N, rfl⟩ : ∃ q : Nat, n = q := ⟨n.toNat, by omega⟩
  have d2 : decide (12 < N) = false := decide_eq_false (by omega)
  have HP := Lib.hid (show snP N = cv (wl 2) (2 * N) 0 by unfold snP; rw [if_pos (by omega)]; exact sn_cv N (by omega))
  have HL := Lib.hid (withLevelsI 2 w)
  have HC := Lib.hid (fun W (h : Alph W w.heap.size (wl 2)) => countI (wl 2) w.heap.size 3 (2 * N) W h rfl (Nat.le_refl _) sml2 (by omega))
  rw [show ((2 * N : Nat) : Int) = 2 * (N : Int) by omega] at HC
  have hw4 : IntKind.i64.wrap (2 * (N : Int)) = 2 * (N : Int) := IntWalk.i64_in _ (by omega)
  generalize cv (wl 2) (2 * N) 0 = c at *
  go_enter Try.func12, Try.ntmps12
  go_wp2_with fail
  (with_reducible refine HL.out.mono ?_)
  rintro e w1 ⟨rfl, ha, hb⟩
  go_wp2_with fail
  (with_reducible refine (HC.out _ ?h).mono ?_)
  case h => exact ha
  rintro e w2 ⟨rfl, hb2⟩
  go_wp2
  go_ret
  exact ⟨ret_int HP.out.symm, hb.trans (hb2.mono hb.size)⟩

theorem nk_at (f n k : Nat) (hk : k ≤ n) (w : World) {r : Int} (h : Calls Try.prog f #[.int .i64 ((n + k : Nat) : Int), .int .i64 ((n - k : Nat) : Int)] w fun e w' => e = .returned (.int .i64 r) ∧ w = w') : Calls Try.prog f #[.int .i64 ((n : Int) + (k : Int)), .int .i64 ((n : Int) - (k : Int))] w fun e w' => e = .returned (.int .i64 r) ∧ w = w' := by
  rwa [show ((n + k : Nat) : Int) = (n : Int) + (k : Int) by omega, show ((n - k : Nat) : Int) = (n : Int) - (k : Int) by omega] at h

set_option maxRecDepth 100000 in
set_option maxHeartbeats 3200000 in
theorem schroederNumber (n : Int) (w : World) : Calls Try.prog 11 #[.int .i64 n] w fun e w' => e = .returned (.int .i64 (snP n)) ∧ Below w.heap.size w w' := by
  by_cases hn : 0 ≤ n ∧ n ≤ 12
  · have HI := Lib.hid (fun W => l1In_yes n 0 12 W hn.1 hn.2)
    obtain ⟨N, rfl⟩ : ∃ q : Nat, n = q := ⟨n.toNat, by omega⟩
    have hN : N ≤ 12 := by omega
    have HP := Lib.hid (show snP N = snS N (N + 1) by unfold snP; rw [if_pos (by omega)]; rfl)
    clear hn
    go_enter Try.func11, Try.ntmps11
    go_wp2_with fail
    (with_reducible refine (HI.out _).mono ?_)
    rintro e w' ⟨rfl, rfl⟩
    go_wp2
    go_loopw [3, 4] (fun x y wr => ∃ k : Nat, k ≤ N + 1 ∧ y = .int .i64 k ∧ x = .int .i64 (snS N k) ∧ Below w.heap.size w wr) (fun _ y _ => N + 1 - (intOf y).toNat)
    case atStart => exact ⟨0, Nat.zero_le _, rfl, rfl, Below.refl _ _⟩
    case round =>
      obtain ⟨k, hk, rfl, rfl, hb⟩ := hrel
      have HB := Lib.hid hb
      have hB := hb.size
      clear hb
      by_cases hlt : k ≤ N
      · have hki : (k : Int) ≤ (N : Int) := by omega
        have HCA := Lib.hid (fun W => catalanNumber (k : Int) W)
        rw [cat_tab k (by omega)] at HCA
        have HBI := Lib.hid (fun W => nk_at 28 N k hlt W (boS (N + k) (N - k) W (by omega) (by omega)))
        have b1 := sn_bd N (by omega) k (by omega)
        have b2 := sn_bd N (by omega) (k + 1) (by omega)
        have HNS := Lib.hid (show snS N (k + 1) = snS N k + catL.getD k 0 * bo (N + k) (N - k) from rfl)
        rw [HNS.out] at b2
        have hw1 : IntKind.i64.wrap ((N : Int) + (k : Int)) = (N : Int) + (k : Int) := IntWalk.i64_in _ (by omega)
        have hw2 : IntKind.i64.wrap ((N : Int) - (k : Int)) = (N : Int) - (k : Int) := IntWalk.i64_in _ (by omega)
        generalize catL.getD k 0 = x at *
        generalize bo (N + k) (N - k) = z at *
        generalize snS N k = c at *
        generalize hp : x * z = p at *
        have v1 : IntKind.i64.wrap p = p := IntWalk.i64_in _ (by omega)
        have v2 : IntKind.i64.wrap (c + p) = c + p := IntWalk.i64_in _ (by omega)
        go_wp2_with fail
        (with_reducible refine (HCA.out _).mono ?_)
        rintro e w1 ⟨rfl, hb1⟩
        have HB1 := Lib.hid (HB.out.trans (hb1.mono hB))
        clear hb1
        go_wp2_with fail
        (with_reducible refine (HBI.out _).mono ?_)
        rintro e w' ⟨rfl, rfl⟩
        go_wp2
        exact ⟨⟨k + 1, by omega, by simp, by rw [HNS.out], HB1.out⟩, by simp [intOf]; omega⟩
      · obtain rfl : k = N + 1 := by omega
        have hki : ¬ ((N + 1 : Nat) : Int) ≤ (N : Int) := by omega
        have hki2 : ¬ (N : Int) + 1 ≤ (N : Int) := by omega
        go_wp2
        go_ret
        exact ⟨ret_int HP.out.symm, HB.out⟩
  · have HI := Lib.hid (fun W => (show Calls Try.prog 26 #[.int .i64 n, .int .i64 0, .int .i64 12] W fun e w' => e = .returned (.bool false) ∧ W = w' by
      by_cases h1 : 0 ≤ n
      · exact l1In_no2 n 0 12 W h1 (by omega)
      · exact l1In_no1 n 0 12 W (by omega)))
    have HP := Lib.hid (snP_out hn)
    clear hn
    go_enter Try.func11, Try.ntmps11
    go_wp2_with fail
    (with_reducible refine (HI.out _).mono ?_)
    rintro e w' ⟨rfl, rfl⟩
    go_wp2
    go_ret
    exact ⟨ret_int HP.out.symm, Below.refl _ _⟩

set_option maxRecDepth 100000 in
set_option maxHeartbeats 1600000 in
theorem littleSchroeder (n : Int) (w : World) : Calls Try.prog 13 #[.int .i64 n] w fun e w' => e = .returned (.int .i64 (lsP n)) ∧ Below w.heap.size w w' := by
  have HS := Lib.hid (schroederNumber n w)
  by_cases h0 : n = 0
  · subst h0
    have HP := Lib.hid (show lsP 0 = 1 by unfold lsP; rw [if_pos (.inl rfl), snP_zero])
    rw [snP_zero] at HS
    go_enter Try.func13, Try.ntmps13
    go_wp2_with fail
    (with_reducible refine HS.out.mono ?_)
    rintro e w1 ⟨rfl, hb⟩
    go_wp2
    go_ret
    exact ⟨ret_int HP.out.symm, hb⟩
  have hz : (n == 0) = false := beq_eq_false_iff_ne.2 h0
  by_cases hn : 1 ≤ n ∧ n ≤ 12
  · have hb2 := snP_big hn.1 hn.2
    have HP := Lib.hid (show lsP n = snP n / 2 by unfold lsP; rw [if_neg (by omega)])
    generalize snP n = x at *
    have d0 : decide (x < 0) = false := decide_eq_false (by omega)
    go_enter Try.func13, Try.ntmps13
    go_wp2_with fail
    (with_reducible refine HS.out.mono ?_)
    rintro e w1 ⟨rfl, hb⟩
    go_wp2
    go_ret
    exact ⟨ret_int (by rw [HP.out]; try omega), hb⟩
  · have HP := Lib.hid (show lsP n = -1 by unfold lsP; rw [snP_out (by omega), if_pos (.inr (by decide))])
    rw [snP_out (by omega)] at HS
    clear hn
    go_enter Try.func13, Try.ntmps13
    go_wp2_with fail
    (with_reducible refine HS.out.mono ?_)
    rintro e w1 ⟨rfl, hb⟩
    go_wp2
    go_ret
    exact ⟨ret_int HP.out.symm, hb⟩

set_option maxRecDepth 100000 in
set_option maxHeartbeats 1600000 in
theorem littleSchroederI (n : Int) (w : World) : Calls Try.prog 14 #[.int .i64 n] w fun e w' => e = .returned (.int .i64 (lsP n)) ∧ Below w.heap.size w w' := by
  have HS := Lib.hid (schroederNumberI n w)
  by_cases hn : 1 ≤ n ∧ n ≤ 12
  · have hb2 := snP_big hn.1 hn.2
    have HP := Lib.hid (show lsP n = snP n / 2 by unfold lsP; rw [if_neg (by omega)])
    generalize snP n = x at *
    have d0 : decide (x ≤ 1) = false := decide_eq_false (by omega)
    have d1 : ¬ x ≤ 1 := by omega
    go_enter Try.func14, Try.ntmps14
    go_wp2_with fail
    (with_reducible refine HS.out.mono ?_)
    rintro e w1 ⟨rfl, hb⟩
    go_wp2
    go_ret
    exact ⟨ret_int (by rw [HP.out]; try omega), hb⟩
  · have HP := Lib.hid (show lsP n = snP n by
      unfold lsP
      by_cases h0 : n = 0
      · rw [if_pos (.inl h0)]
      · rw [if_pos (.inr (by rw [snP_out (by omega)]; decide))])
    have hs1 : snP n ≤ 1 := by
      by_cases h0 : n = 0
      · subst h0; rw [snP_zero]; decide
      · rw [snP_out (by omega)]; decide
    generalize snP n = x at *
    have d0 : decide (x ≤ 1) = true := decide_eq_true hs1
    clear hn
    go_enter Try.func14, Try.ntmps14
    go_wp2_with fail
    (with_reducible refine HS.out.mono ?_)
    rintro e w1 ⟨rfl, hb⟩
    go_wp2
    go_ret
    exact ⟨ret_int HP.out.symm, hb⟩

end Go.Proofs.Ytedniiomkejmoaa
