/- ClaimWord, both functions (written by tools/mk33w.py). -/
import Derived.Test.YtgeppabpkbepdaaSpec2A
namespace Go.Proofs.Ytgeppabpkbepdaa
open Go.ChangeShapes Go.WideShapes Go.ChangeAt Go.RowKit
set_option linter.unusedVariables false

/-- The word of a kind of claims. -/
def cwP (n : Int) : ByteArray :=
  if n = 1 then ⟨#[98, 101, 108, 111, 119]⟩ else
  if n = 2 then ⟨#[100, 105, 115, 116, 97, 110, 99, 101]⟩ else
  if n = 3 then ⟨#[115, 111, 114, 116, 101, 100]⟩ else
  if n = 4 then ⟨#[117, 110, 115, 111, 114, 116, 101, 100]⟩ else
  if n = 5 then ⟨#[102, 114, 105, 101, 122, 101]⟩ else
  if n = 6 then ⟨#[109, 101, 97, 110, 100, 101, 114]⟩ else
  ⟨#[]⟩
theorem cw_out {n : Int} (h : ¬ (1 ≤ n ∧ n ≤ 6)) : cwP n = ⟨#[]⟩ := by
  unfold cwP
  rw [if_neg (by omega), if_neg (by omega), if_neg (by omega), if_neg (by omega), if_neg (by omega), if_neg (by omega)]
theorem ret_s33 {a b : ByteArray} (h : a = b) : Ending.returned (.string a) = .returned (.string b) := by rw [h]

set_option maxRecDepth 100000 in
set_option maxHeartbeats 1600000 in
theorem claimWord (n : Int) (w : World) : Calls Try.prog 6 #[.int .i64 n] w fun e w' => e = .returned (.string (cwP n)) ∧ Below w.heap.size w w' := by
  by_cases hr : 1 ≤ n ∧ n ≤ 6
  · have h7 : n = 1 ∨ n = 2 ∨ n = 3 ∨ n = 4 ∨ n = 5 ∨ n = 6 := by omega
    clear hr
    rcases h7 with rfl | rfl | rfl | rfl | rfl | rfl
    · have HP := Lib.hid (show cwP 1 = ⟨#[98, 101, 108, 111, 119]⟩ from rfl)
      go_enter Try.func6, Try.ntmps6
      go_wp2_with fail
      (with_reducible refine (l1In_yes 1 1 6 _ (by decide) (by decide)).mono ?_)
      rintro e w' ⟨rfl, rfl⟩
      go_wp2
      go_ret
      exact ⟨ret_s33 HP.out.symm, (Below.refl _ _).alloc (Nat.le_refl _) _⟩
    · have HP := Lib.hid (show cwP 2 = ⟨#[100, 105, 115, 116, 97, 110, 99, 101]⟩ from rfl)
      go_enter Try.func6, Try.ntmps6
      go_wp2_with fail
      (with_reducible refine (l1In_yes 2 1 6 _ (by decide) (by decide)).mono ?_)
      rintro e w' ⟨rfl, rfl⟩
      go_wp2
      go_ret
      exact ⟨ret_s33 HP.out.symm, (Below.refl _ _).alloc (Nat.le_refl _) _⟩
    · have HP := Lib.hid (show cwP 3 = ⟨#[115, 111, 114, 116, 101, 100]⟩ from rfl)
      go_enter Try.func6, Try.ntmps6
      go_wp2_with fail
      (with_reducible refine (l1In_yes 3 1 6 _ (by decide) (by decide)).mono ?_)
      rintro e w' ⟨rfl, rfl⟩
      go_wp2
      go_ret
      exact ⟨ret_s33 HP.out.symm, (Below.refl _ _).alloc (Nat.le_refl _) _⟩
    · have HP := Lib.hid (show cwP 4 = ⟨#[117, 110, 115, 111, 114, 116, 101, 100]⟩ from rfl)
      go_enter Try.func6, Try.ntmps6
      go_wp2_with fail
      (with_reducible refine (l1In_yes 4 1 6 _ (by decide) (by decide)).mono ?_)
      rintro e w' ⟨rfl, rfl⟩
      go_wp2
      go_ret
      exact ⟨ret_s33 HP.out.symm, (Below.refl _ _).alloc (Nat.le_refl _) _⟩
    · have HP := Lib.hid (show cwP 5 = ⟨#[102, 114, 105, 101, 122, 101]⟩ from rfl)
      go_enter Try.func6, Try.ntmps6
      go_wp2_with fail
      (with_reducible refine (l1In_yes 5 1 6 _ (by decide) (by decide)).mono ?_)
      rintro e w' ⟨rfl, rfl⟩
      go_wp2
      go_ret
      exact ⟨ret_s33 HP.out.symm, (Below.refl _ _).alloc (Nat.le_refl _) _⟩
    · have HP := Lib.hid (show cwP 6 = ⟨#[109, 101, 97, 110, 100, 101, 114]⟩ from rfl)
      go_enter Try.func6, Try.ntmps6
      go_wp2_with fail
      (with_reducible refine (l1In_yes 6 1 6 _ (by decide) (by decide)).mono ?_)
      rintro e w' ⟨rfl, rfl⟩
      go_wp2
      go_ret
      exact ⟨ret_s33 HP.out.symm, (Below.refl _ _).alloc (Nat.le_refl _) _⟩
  · have HP := Lib.hid (cw_out hr)
    have HC : Calls Try.prog 20 #[.int .i64 n, .int .i64 1, .int .i64 6] w fun e w' => e = .returned (.bool false) ∧ w = w' := by
      by_cases h1 : 1 ≤ n
      · exact l1In_no2 n 1 6 w h1 (by omega)
      · exact l1In_no1 n 1 6 w (by omega)
    have HC := Lib.hid HC
    clear hr
    go_enter Try.func6, Try.ntmps6
    go_wp2_with fail
    (with_reducible refine HC.out.mono ?_)
    rintro e w' ⟨rfl, rfl⟩
    go_wp2
    go_ret
    exact ⟨ret_s33 HP.out.symm, Below.refl _ _⟩

set_option maxRecDepth 100000 in
set_option maxHeartbeats 1600000 in
theorem claimWordI (n : Int) (w : World) : Calls Try.prog 7 #[.int .i64 n] w fun e w' => e = .returned (.string (cwP n)) ∧ Below w.heap.size w w' := by
  by_cases hr : 1 ≤ n ∧ n ≤ 6
  · have h7 : n = 1 ∨ n = 2 ∨ n = 3 ∨ n = 4 ∨ n = 5 ∨ n = 6 := by omega
    clear hr
    rcases h7 with rfl | rfl | rfl | rfl | rfl | rfl
    · have HP := Lib.hid (show cwP 1 = ⟨#[98, 101, 108, 111, 119]⟩ from rfl)
      go_enter Try.func7, Try.ntmps7
      go_wp2
      go_ret
      exact ⟨ret_s33 HP.out.symm, Below.refl _ _⟩
    · have HP := Lib.hid (show cwP 2 = ⟨#[100, 105, 115, 116, 97, 110, 99, 101]⟩ from rfl)
      go_enter Try.func7, Try.ntmps7
      go_wp2
      go_ret
      exact ⟨ret_s33 HP.out.symm, Below.refl _ _⟩
    · have HP := Lib.hid (show cwP 3 = ⟨#[115, 111, 114, 116, 101, 100]⟩ from rfl)
      go_enter Try.func7, Try.ntmps7
      go_wp2
      go_ret
      exact ⟨ret_s33 HP.out.symm, Below.refl _ _⟩
    · have HP := Lib.hid (show cwP 4 = ⟨#[117, 110, 115, 111, 114, 116, 101, 100]⟩ from rfl)
      go_enter Try.func7, Try.ntmps7
      go_wp2
      go_ret
      exact ⟨ret_s33 HP.out.symm, Below.refl _ _⟩
    · have HP := Lib.hid (show cwP 5 = ⟨#[102, 114, 105, 101, 122, 101]⟩ from rfl)
      go_enter Try.func7, Try.ntmps7
      go_wp2
      go_ret
      exact ⟨ret_s33 HP.out.symm, Below.refl _ _⟩
    · have HP := Lib.hid (show cwP 6 = ⟨#[109, 101, 97, 110, 100, 101, 114]⟩ from rfl)
      go_enter Try.func7, Try.ntmps7
      go_wp2
      go_ret
      exact ⟨ret_s33 HP.out.symm, Below.refl _ _⟩
  · have HP := Lib.hid (cw_out hr)
    have h1 : (n == 1) = false := beq_eq_false_iff_ne.2 (by omega)
    have h2 : (n == 2) = false := beq_eq_false_iff_ne.2 (by omega)
    have h3 : (n == 3) = false := beq_eq_false_iff_ne.2 (by omega)
    have h4 : (n == 4) = false := beq_eq_false_iff_ne.2 (by omega)
    have h5 : (n == 5) = false := beq_eq_false_iff_ne.2 (by omega)
    have h6 : (n == 6) = false := beq_eq_false_iff_ne.2 (by omega)
    clear hr
    go_enter Try.func7, Try.ntmps7
    go_wp2
    go_ret
    exact ⟨ret_s33 HP.out.symm, Below.refl _ _⟩

end Go.Proofs.Ytgeppabpkbepdaa
