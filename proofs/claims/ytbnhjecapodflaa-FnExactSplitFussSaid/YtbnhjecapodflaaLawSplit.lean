/- The walk of the law of SplitFuss out of the two functions' contracts. -/
import Derived.Test.YtbnhjecapodflaaSplit27
namespace Go.Proofs.Ytbnhjecapodflaa
open Go.ChangeShapes Go.WideShapes Go.ChangeAt Go.RowKit
set_option linter.unusedVariables false

theorem markS1 (v : Value) (lo hi : Nat) (xs : List ByteArray) (w : World) (hv : OwnS w lo hi v xs) (hhi : hi ≤ w.heap.size) (hlo : lo ≤ w.heap.size) (hl : xs.length ≤ 1099511627776) :
    Calls Try.prog 16 #[v, .int .i64 1] w fun e w' => e = .returned (.int .i64 (1 + xs.length)) ∧ OwnS w' lo hi v (marksS 1 xs.length) ∧ Below lo w w' := markS v lo hi xs 1 w hv hhi hlo hl (by omega) (by omega)
theorem heldS1 (v : Value) (lo hi : Nat) (n : Nat) (w : World) (hv : OwnS w lo hi v (marksS 1 n)) (hhi : hi ≤ w.heap.size) (hl : n ≤ 1099511627776) :
    Calls Try.prog 17 #[v, .int .i64 1] w fun e w' => e = .returned (.int .i64 (1 + n)) ∧ Below w.heap.size w w' := heldS v lo hi n 1 w hv hhi hl (by omega) (by omega)

set_option maxRecDepth 100000 in
theorem lawSplitBig (m : Int) (s : ByteArray) (w : World) (hs : 1048576 < s.size) : Calls Try.prog 6 #[.int .i64 m, .string s] w fun e w' => e = .returned (.bool true) ∧ Below w.heap.size w w' := by
  have hbi : (1048576 : Int) < (s.size : Int) := by omega
  go_enter Try.func6, Try.ntmps6
  go_wp2
  go_ret
  exact ⟨rfl, Below.refl _ _⟩
set_option maxRecDepth 100000 in
set_option maxHeartbeats 1600000 in
theorem lawSplit (m : Int) (s : ByteArray) (xs : List ByteArray) (R : Bool) (hl : xs.length ≤ 1048576) (hS : ∀ w, Calls Try.prog 18 #[.int .i64 m, .string s] w (AnsSB xs R w)) (hI : ∀ w, Calls Try.prog 19 #[.int .i64 m, .string s] w (AnsSB xs R w))
    (w : World) (hs : s.size ≤ 1048576) : Calls Try.prog 6 #[.int .i64 m, .string s] w fun e w' => e = .returned (.bool true) ∧ Below w.heap.size w w' := by
  have HS := Lib.hid hS
  have HI := Lib.hid hI
  clear hS hI
  have hr1 : (R != R) = false := by simp
  have hq1 : (R == R) = true := by simp
  go_enter Try.func6, Try.ntmps6
  go_wp2_with fail
  refine (HS.out _).mono ?_
  rintro e w1 ⟨v0, rfl, ho, hb⟩
  have HO0 := Lib.hid ho
  have HB1 := Lib.hid hb
  have z1 := hb.size
  clear ho hb
  go_wp2_with fail
  refine (HI.out _).mono ?_
  rintro e w2 ⟨v1, rfl, ho, hb⟩
  have HO1 := Lib.hid ho
  have HO0 := Lib.hid (HO0.out.keep hb (Nat.le_refl _))
  have HB2 := Lib.hid (HB1.out.trans (hb.mono z1))
  have z2 := hb.size
  clear ho hb
  go_wp2_with fail
  refine (eqS_same _ _ _ _ _ _ xs _ HO1.out HO0.out (by omega)).mono ?_
  rintro e w3 ⟨rfl, hb⟩
  have HO1 := Lib.hid (HO1.out.keep hb (Nat.le_refl _))
  have HO0 := Lib.hid (HO0.out.keep hb z2)
  have HB3 := Lib.hid (HB2.out.trans (hb.mono (by omega)))
  have z3 := hb.size
  clear hb
  go_wp2_with fail
  refine (markS1 _ _ _ xs _ HO1.out (by omega) (by omega) (by omega)).mono ?_
  rintro e w4 ⟨rfl, ho, hb⟩
  have HO1 := Lib.hid ho
  have HO0 := Lib.hid (HO0.out.keep hb (Nat.le_refl _))
  have HB4 := Lib.hid (HB3.out.trans (hb.mono z1))
  have z4 := hb.size
  clear ho hb
  have e1 : (1 : Int) + (xs.length : Int) = (1 : Int) + (xs.length : Int) := rfl
  go_wp2_with fail
  refine (heldS1 _ _ _ xs.length _ HO1.out (by omega) (by omega)).mono ?_
  rintro e w5 ⟨rfl, hb⟩
  have HO1 := Lib.hid (HO1.out.keep hb (by omega))
  have HO0 := Lib.hid (HO0.out.keep hb (by omega))
  have HB4 := Lib.hid (HB4.out.trans (hb.mono (by omega)))
  have z5 := hb.size
  clear hb
  go_wp2_with fail
  refine (HI.out _).mono ?_
  rintro e w6 ⟨v2, rfl, ho, hb⟩
  have HO2 := Lib.hid ho
  have HO1 := Lib.hid (HO1.out.keep hb (by omega))
  have HO0 := Lib.hid (HO0.out.keep hb (by omega))
  have HB6 := Lib.hid (HB4.out.trans (hb.mono (by omega)))
  have z6 := hb.size
  clear ho hb
  go_wp2_with fail
  refine (eqS_same _ _ _ _ _ _ xs _ HO2.out HO0.out (by omega)).mono ?_
  rintro e w7 ⟨rfl, hb⟩
  have HO1 := Lib.hid (HO1.out.keep hb (by omega))
  have HB7 := Lib.hid (HB6.out.trans (hb.mono (by omega)))
  have z7 := hb.size
  clear hb
  go_wp2_with fail
  refine (heldS1 _ _ _ xs.length _ HO1.out (by omega) (by omega)).mono ?_
  rintro e w8 ⟨rfl, hb8⟩
  have HB7 := Lib.hid (HB7.out.trans (hb8.mono (by omega)))
  go_wp2
  go_ret
  exact ⟨rfl, HB7.out⟩

end Go.Proofs.Ytbnhjecapodflaa
