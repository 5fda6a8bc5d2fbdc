/- OrderOfTurn, both functions (written by tools/mk15.py). -/
import Derived.Test.YtpcpfhcioeaifaaSpec2A
import Derived.Test.YtpcpfhcioeaifaaSpec6F
namespace Go.Proofs.Ytpcpfhcioeaifaa
open Go.ChangeShapes Go.WideShapes Go.ChangeAt Go.RowKit
set_option linter.unusedVariables false

def fam0 : ByteArray := ⟨#[109, 97, 116, 99, 104, 105, 110, 103, 115]⟩
def fam1 : ByteArray := ⟨#[112, 97, 114, 116, 105, 116, 105, 111, 110, 115]⟩
def fam2 : ByteArray := ⟨#[116, 114, 105, 97, 110, 103, 117, 108, 97, 116, 105, 111, 110, 115]⟩
def ordP (F : ByteArray) (n : Int) : Int := if 1 ≤ n ∧ n ≤ 5 then (if F = fam0 then 2 * n else if F = fam1 then n else if F = fam2 then n + 2 else -1) else -1
theorem ba_beq (F G : ByteArray) : (F.toList == G.toList) = decide (F = G) := by
  rw [Bool.eq_iff_iff, beq_iff_eq, decide_eq_true_eq]
  constructor
  · intro h
    rw [ByteArray.toList_eq, ByteArray.toList_eq] at h
    exact ByteArray.ext (Array.toList_inj.1 h)
  · intro h; rw [h]
theorem fam0_eq (F : ByteArray) : (F.toList == [109, 97, 116, 99, 104, 105, 110, 103, 115]) = decide (F = fam0) := by
  have h := ba_beq F fam0
  rw [show fam0.toList = [109, 97, 116, 99, 104, 105, 110, 103, 115] by rw [ByteArray.toList_eq]; rfl] at h
  exact h
theorem fam1_eq (F : ByteArray) : (F.toList == [112, 97, 114, 116, 105, 116, 105, 111, 110, 115]) = decide (F = fam1) := by
  have h := ba_beq F fam1
  rw [show fam1.toList = [112, 97, 114, 116, 105, 116, 105, 111, 110, 115] by rw [ByteArray.toList_eq]; rfl] at h
  exact h
theorem fam2_eq (F : ByteArray) : (F.toList == [116, 114, 105, 97, 110, 103, 117, 108, 97, 116, 105, 111, 110, 115]) = decide (F = fam2) := by
  have h := ba_beq F fam2
  rw [show fam2.toList = [116, 114, 105, 97, 110, 103, 117, 108, 97, 116, 105, 111, 110, 115] by rw [ByteArray.toList_eq]; rfl] at h
  exact h

set_option maxRecDepth 100000 in
set_option maxHeartbeats 1600000 in
theorem orderOfTurn (F : ByteArray) (n : Int) (w : World) : Calls Try.prog 15 #[.string F, .int .i64 n] w fun e w' => e = .returned (.int .i64 (ordP F n)) ∧ w = w' := by
  have q0 := fam0_eq F
  have q1 := fam1_eq F
  have q2 := fam2_eq F
  by_cases h : 1 ≤ n ∧ n ≤ 5
  · have hw1 : IntKind.i64.wrap (2 * n) = 2 * n := IntWalk.i64_in _ (by omega)
    have hw2 : IntKind.i64.wrap (n + 2) = n + 2 := IntWalk.i64_in _ (by omega)
    have HP := Lib.hid (show ordP F n = (if F = fam0 then 2 * n else if F = fam1 then n else if F = fam2 then n + 2 else -1) from if_pos h)
    have HI := Lib.hid (l1In_yes n 1 5 w h.1 h.2)
    by_cases e0 : F = fam0
    · rw [decide_eq_true e0] at q0
      have HQ := Lib.hid (HP.out.trans (if_pos e0))
      clear e0 q1 q2
      clear h
      go_enter Try.func15, Try.ntmps15
      go_wp2_with fail
      (with_reducible refine HI.out.mono ?_)
      rintro e w' ⟨rfl, rfl⟩
      go_wp2
      go_ret
      exact ⟨ret_int HQ.out.symm, rfl⟩
    · rw [decide_eq_false e0] at q0
      have HP1 := Lib.hid (HP.out.trans (if_neg e0))
      clear e0
      by_cases e1 : F = fam1
      · rw [decide_eq_true e1] at q1
        have HQ := Lib.hid (HP1.out.trans (if_pos e1))
        clear e1 q2
        clear h
        go_enter Try.func15, Try.ntmps15
        go_wp2_with fail
        (with_reducible refine HI.out.mono ?_)
        rintro e w' ⟨rfl, rfl⟩
        go_wp2
        go_ret
        exact ⟨ret_int HQ.out.symm, rfl⟩
      · rw [decide_eq_false e1] at q1
        have HP2 := Lib.hid (HP1.out.trans (if_neg e1))
        clear e1
        by_cases e2 : F = fam2
        · rw [decide_eq_true e2] at q2
          have HQ := Lib.hid (HP2.out.trans (if_pos e2))
          clear e2
          clear h
          go_enter Try.func15, Try.ntmps15
          go_wp2_with fail
          (with_reducible refine HI.out.mono ?_)
          rintro e w' ⟨rfl, rfl⟩
          go_wp2
          go_ret
          exact ⟨ret_int HQ.out.symm, rfl⟩
        · rw [decide_eq_false e2] at q2
          have HQ := Lib.hid (HP2.out.trans (if_neg e2))
          clear e2
          clear h
          go_enter Try.func15, Try.ntmps15
          go_wp2_with fail
          (with_reducible refine HI.out.mono ?_)
          rintro e w' ⟨rfl, rfl⟩
          go_wp2
          go_ret
          exact ⟨ret_int HQ.out.symm, rfl⟩
  · have HP := Lib.hid (show ordP F n = -1 from if_neg h)
    have HI := Lib.hid (l1In_not n 1 5 w h)
    go_enter Try.func15, Try.ntmps15
    go_wp2_with fail
    (with_reducible refine HI.out.mono ?_)
    rintro e w' ⟨rfl, rfl⟩
    go_wp2
    go_ret
    exact ⟨ret_int HP.out.symm, rfl⟩

set_option maxRecDepth 100000 in
set_option maxHeartbeats 1600000 in
theorem orderOfTurnI (F : ByteArray) (n : Int) (w : World) : Calls Try.prog 16 #[.string F, .int .i64 n] w fun e w' => e = .returned (.int .i64 (ordP F n)) ∧ w = w' := by
  have q0 := fam0_eq F
  have q1 := fam1_eq F
  have q2 := fam2_eq F
  by_cases h : 1 ≤ n ∧ n ≤ 5
  · have hw1 : IntKind.i64.wrap (2 * n) = 2 * n := IntWalk.i64_in _ (by omega)
    have hw2 : IntKind.i64.wrap (n + 2) = n + 2 := IntWalk.i64_in _ (by omega)
    have HP := Lib.hid (show ordP F n = (if F = fam0 then 2 * n else if F = fam1 then n else if F = fam2 then n + 2 else -1) from if_pos h)
    have h1 : ¬ n < 1 := by omega
    have h5 : ¬ (5 : Int) < n := by omega
    by_cases e0 : F = fam0
    · rw [decide_eq_true e0] at q0
      have HQ := Lib.hid (HP.out.trans (if_pos e0))
      clear e0 q1 q2
      clear h
      go_enter Try.func16, Try.ntmps16
      go_wp2
      go_ret
      exact ⟨ret_int HQ.out.symm, rfl⟩
    · rw [decide_eq_false e0] at q0
      have HP1 := Lib.hid (HP.out.trans (if_neg e0))
      clear e0
      by_cases e1 : F = fam1
      · rw [decide_eq_true e1] at q1
        have HQ := Lib.hid (HP1.out.trans (if_pos e1))
        clear e1 q2
        clear h
        go_enter Try.func16, Try.ntmps16
        go_wp2
        go_ret
        exact ⟨ret_int HQ.out.symm, rfl⟩
      · rw [decide_eq_false e1] at q1
        have HP2 := Lib.hid (HP1.out.trans (if_neg e1))
        clear e1
        by_cases e2 : F = fam2
        · rw [decide_eq_true e2] at q2
          have HQ := Lib.hid (HP2.out.trans (if_pos e2))
          clear e2
          clear h
          go_enter Try.func16, Try.ntmps16
          go_wp2
          go_ret
          exact ⟨ret_int HQ.out.symm, rfl⟩
        · rw [decide_eq_false e2] at q2
          have HQ := Lib.hid (HP2.out.trans (if_neg e2))
          clear e2
          clear h
          go_enter Try.func16, Try.ntmps16
          go_wp2
          go_ret
          exact ⟨ret_int HQ.out.symm, rfl⟩
  · have HP := Lib.hid (show ordP F n = -1 from if_neg h)
    by_cases h1 : n < 1
    · clear h
      go_enter Try.func16, Try.ntmps16
      go_wp2
      go_ret
      exact ⟨ret_int HP.out.symm, rfl⟩
    · have h5 : (5 : Int) < n := by omega
      clear h
      go_enter Try.func16, Try.ntmps16
      go_wp2
      go_ret
      exact ⟨ret_int HP.out.symm, rfl⟩

end Go.Proofs.Ytpcpfhcioeaifaa
