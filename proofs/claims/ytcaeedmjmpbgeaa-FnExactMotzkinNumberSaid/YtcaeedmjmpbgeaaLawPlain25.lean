/- The walks of exact laws, from the two functions' contracts (written by program). -/
import Derived.Test.YtcaeedmjmpbgeaaMark2
import Derived.Test.YtcaeedmjmpbgeaaSpec2G
namespace Go.Proofs.Ytcaeedmjmpbgeaa
open Go.ChangeShapes Go.WideShapes Go.ChangeAt Go.RowKit
set_option linter.unusedVariables false

set_option maxRecDepth 100000 in
set_option maxHeartbeats 3200000 in
theorem lawIsMotzkin (s0 : ByteArray) (R0 : Bool) (w : World) (ms0 : s0.size ≤ 9223372036854775807)
    (hS : s0.size ≤ 1048576 → ∀ w, Calls Try.prog 9 #[.string s0] w fun e w' => e = .returned (.bool R0) ∧ Below w.heap.size w w')
    (hI : s0.size ≤ 1048576 → ∀ w, Calls Try.prog 10 #[.string s0] w fun e w' => e = .returned (.bool R0) ∧ Below w.heap.size w w') :
    Calls Try.prog 3 #[.string s0] w fun e w' => e = .returned (.bool true) ∧ Below w.heap.size w w' := by
  by_cases hbig0 : 1048576 < s0.size
  · have hbi0 : (1048576 : Int) < (s0.size : Int) := by omega
    clear hS hI
    go_enter Try.func3, Try.ntmps3
    go_wp2
    go_ret
    exact ⟨rfl, Below.refl _ _⟩
  have hsm0 : s0.size ≤ 1048576 := by omega
  have HS := Lib.hid (hS hsm0)
  have HI := Lib.hid (hI hsm0)
  clear hS hI
  have hr0 : (R0 != R0) = false := by simp
  have hq0 : (R0 == R0) = true := by simp
  have Hw0 := Lib.hid (Below.refl w.heap.size w)
  go_enter Try.func3, Try.ntmps3
  go_wp2_with fail
  (with_reducible refine (HS.out _).mono ?_)
  rintro e w1 ⟨rfl, hb⟩
  have z1 := hb.size
  have Hw1 := Lib.hid (Hw0.out.trans (hb.mono Hw0.out.size))
  clear hb
  go_wp2_with fail
  (with_reducible refine (HI.out _).mono ?_)
  rintro e w2 ⟨rfl, hb⟩
  have z2 := hb.size
  have Hw2 := Lib.hid (Hw1.out.trans (hb.mono Hw1.out.size))
  clear hb
  go_wp2
  go_ret
  exact ⟨rfl, Hw2.out⟩

set_option maxRecDepth 100000 in
set_option maxHeartbeats 3200000 in
theorem lawLevelSteps (s0 : ByteArray) (R0 : Int) (w : World) (ms0 : s0.size ≤ 9223372036854775807)
    (hS : s0.size ≤ 1048576 → ∀ w, Calls Try.prog 22 #[.string s0] w fun e w' => e = .returned (.int .i64 R0) ∧ Below w.heap.size w w')
    (hI : s0.size ≤ 1048576 → ∀ w, Calls Try.prog 23 #[.string s0] w fun e w' => e = .returned (.int .i64 R0) ∧ Below w.heap.size w w') :
    Calls Try.prog 8 #[.string s0] w fun e w' => e = .returned (.bool true) ∧ Below w.heap.size w w' := by
  by_cases hbig0 : 1048576 < s0.size
  · have hbi0 : (1048576 : Int) < (s0.size : Int) := by omega
    clear hS hI
    go_enter Try.func8, Try.ntmps8
    go_wp2
    go_ret
    exact ⟨rfl, Below.refl _ _⟩
  have hsm0 : s0.size ≤ 1048576 := by omega
  have HS := Lib.hid (hS hsm0)
  have HI := Lib.hid (hI hsm0)
  clear hS hI
  have hr0 : (R0 != R0) = false := by simp
  have hq0 : (R0 == R0) = true := by simp
  have Hw0 := Lib.hid (Below.refl w.heap.size w)
  go_enter Try.func8, Try.ntmps8
  go_wp2_with fail
  (with_reducible refine (HS.out _).mono ?_)
  rintro e w1 ⟨rfl, hb⟩
  have z1 := hb.size
  have Hw1 := Lib.hid (Hw0.out.trans (hb.mono Hw0.out.size))
  clear hb
  go_wp2_with fail
  (with_reducible refine (HI.out _).mono ?_)
  rintro e w2 ⟨rfl, hb⟩
  have z2 := hb.size
  have Hw2 := Lib.hid (Hw1.out.trans (hb.mono Hw1.out.size))
  clear hb
  go_wp2
  go_ret
  exact ⟨rfl, Hw2.out⟩

set_option maxRecDepth 100000 in
set_option maxHeartbeats 3200000 in
theorem lawMotzkinOf (s0 : ByteArray) (R0 : ByteArray) (R1 : Bool) (w : World) (ms0 : s0.size ≤ 9223372036854775807)
    (hS : s0.size ≤ 1048576 → ∀ w, Calls Try.prog 18 #[.string s0] w fun e w' => e = .returned (.tuple #[.string R0, .bool R1]) ∧ Below w.heap.size w w')
    (hI : s0.size ≤ 1048576 → ∀ w, Calls Try.prog 19 #[.string s0] w fun e w' => e = .returned (.tuple #[.string R0, .bool R1]) ∧ Below w.heap.size w w') :
    Calls Try.prog 6 #[.string s0] w fun e w' => e = .returned (.bool true) ∧ Below w.heap.size w w' := by
  by_cases hbig0 : 1048576 < s0.size
  · have hbi0 : (1048576 : Int) < (s0.size : Int) := by omega
    clear hS hI
    go_enter Try.func6, Try.ntmps6
    go_wp2
    go_ret
    exact ⟨rfl, Below.refl _ _⟩
  have hsm0 : s0.size ≤ 1048576 := by omega
  have HS := Lib.hid (hS hsm0)
  have HI := Lib.hid (hI hsm0)
  clear hS hI
  have hr0 : (R0.toList != R0.toList) = false := by simp
  have hq0 : (R0.toList == R0.toList) = true := by simp
  have hr1 : (R1 != R1) = false := by simp
  have hq1 : (R1 == R1) = true := by simp
  have Hw0 := Lib.hid (Below.refl w.heap.size w)
  go_enter Try.func6, Try.ntmps6
  go_wp2_with fail
  (with_reducible refine (HS.out _).mono ?_)
  rintro e w1 ⟨rfl, hb⟩
  have z1 := hb.size
  have Hw1 := Lib.hid (Hw0.out.trans (hb.mono Hw0.out.size))
  clear hb
  go_wp2_with fail
  (with_reducible refine (HI.out _).mono ?_)
  rintro e w2 ⟨rfl, hb⟩
  have z2 := hb.size
  have Hw2 := Lib.hid (Hw1.out.trans (hb.mono Hw1.out.size))
  clear hb
  go_wp2
  go_ret
  exact ⟨rfl, Hw2.out⟩

set_option maxRecDepth 100000 in
set_option maxHeartbeats 3200000 in
theorem lawDyckOfMotzkin (s0 : ByteArray) (R0 : ByteArray) (R1 : Bool) (w : World) (ms0 : s0.size ≤ 9223372036854775807)
    (hS : s0.size ≤ 1048576 → ∀ w, Calls Try.prog 20 #[.string s0] w fun e w' => e = .returned (.tuple #[.string R0, .bool R1]) ∧ Below w.heap.size w w')
    (hI : s0.size ≤ 1048576 → ∀ w, Calls Try.prog 21 #[.string s0] w fun e w' => e = .returned (.tuple #[.string R0, .bool R1]) ∧ Below w.heap.size w w') :
    Calls Try.prog 7 #[.string s0] w fun e w' => e = .returned (.bool true) ∧ Below w.heap.size w w' := by
  by_cases hbig0 : 1048576 < s0.size
  · have hbi0 : (1048576 : Int) < (s0.size : Int) := by omega
    clear hS hI
    go_enter Try.func7, Try.ntmps7
    go_wp2
    go_ret
    exact ⟨rfl, Below.refl _ _⟩
  have hsm0 : s0.size ≤ 1048576 := by omega
  have HS := Lib.hid (hS hsm0)
  have HI := Lib.hid (hI hsm0)
  clear hS hI
  have hr0 : (R0.toList != R0.toList) = false := by simp
  have hq0 : (R0.toList == R0.toList) = true := by simp
  have hr1 : (R1 != R1) = false := by simp
  have hq1 : (R1 == R1) = true := by simp
  have Hw0 := Lib.hid (Below.refl w.heap.size w)
  go_enter Try.func7, Try.ntmps7
  go_wp2_with fail
  (with_reducible refine (HS.out _).mono ?_)
  rintro e w1 ⟨rfl, hb⟩
  have z1 := hb.size
  have Hw1 := Lib.hid (Hw0.out.trans (hb.mono Hw0.out.size))
  clear hb
  go_wp2_with fail
  (with_reducible refine (HI.out _).mono ?_)
  rintro e w2 ⟨rfl, hb⟩
  have z2 := hb.size
  have Hw2 := Lib.hid (Hw1.out.trans (hb.mono Hw1.out.size))
  clear hb
  go_wp2
  go_ret
  exact ⟨rfl, Hw2.out⟩

set_option maxRecDepth 100000 in
set_option maxHeartbeats 3200000 in
theorem lawMotzkinNumber (n0 : Int) (R0 : Int) (w : World)
    (hS : ∀ w, Calls Try.prog 11 #[.int .i64 n0] w fun e w' => e = .returned (.int .i64 R0) ∧ Below w.heap.size w w')
    (hI : ∀ w, Calls Try.prog 12 #[.int .i64 n0] w fun e w' => e = .returned (.int .i64 R0) ∧ Below w.heap.size w w') :
    Calls Try.prog 4 #[.int .i64 n0] w fun e w' => e = .returned (.bool true) ∧ Below w.heap.size w w' := by
  have HS := Lib.hid (hS)
  have HI := Lib.hid (hI)
  clear hS hI
  have hr0 : (R0 != R0) = false := by simp
  have hq0 : (R0 == R0) = true := by simp
  have Hw0 := Lib.hid (Below.refl w.heap.size w)
  go_enter Try.func4, Try.ntmps4
  go_wp2_with fail
  (with_reducible refine (HS.out _).mono ?_)
  rintro e w1 ⟨rfl, hb⟩
  have z1 := hb.size
  have Hw1 := Lib.hid (Hw0.out.trans (hb.mono Hw0.out.size))
  clear hb
  go_wp2_with fail
  (with_reducible refine (HI.out _).mono ?_)
  rintro e w2 ⟨rfl, hb⟩
  have z2 := hb.size
  have Hw2 := Lib.hid (Hw1.out.trans (hb.mono Hw1.out.size))
  clear hb
  go_wp2
  go_ret
  exact ⟨rfl, Hw2.out⟩

end Go.Proofs.Ytcaeedmjmpbgeaa
