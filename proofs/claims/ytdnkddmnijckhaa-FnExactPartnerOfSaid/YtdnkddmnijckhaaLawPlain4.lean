/- The walks of the laws of chapter 4 over plain answers, from the two functions' contracts. -/
import Derived.Test.YtdnkddmnijckhaaSpec4B
namespace Go.Proofs.Ytdnkddmnijckhaa
open Go.ChangeShapes Go.WideShapes Go.ChangeAt Go.RowKit
set_option linter.unusedVariables false

set_option maxRecDepth 100000 in
set_option maxHeartbeats 1600000 in
theorem lawBracketsOf (s : ByteArray) (P : ByteArray) (B : Bool) (w : World) (ms : s.size ≤ 9223372036854775807)
    (hS : s.size ≤ 1048576 → ∀ w, Calls Try.prog 9 #[.string s] w fun e w' => e = .returned (.tuple #[.string P, .bool B]) ∧ Below w.heap.size w w')
    (hI : s.size ≤ 1048576 → ∀ w, Calls Try.prog 10 #[.string s] w fun e w' => e = .returned (.tuple #[.string P, .bool B]) ∧ Below w.heap.size w w') :
    Calls Try.prog 3 #[.string s] w fun e w' => e = .returned (.bool true) ∧ Below w.heap.size w w' := by
  by_cases hs : 1048576 < s.size
  · have bs : (1048576 : Int) < (s.size : Int) := by omega
    clear hS hI
    go_enter Try.func3, Try.ntmps3
    go_wp2
    go_ret
    exact ⟨rfl, Below.refl _ _⟩
  have HS := Lib.hid (hS (by omega))
  have HI := Lib.hid (hI (by omega))
  clear hS hI
  have hP1 : (P.toList != P.toList) = false := by simp
  have hB1 : (B != B) = false := by simp
  go_enter Try.func3, Try.ntmps3
  go_wp2_with fail
  refine (HS.out _).mono ?_
  rintro e w1 ⟨rfl, hb1⟩
  go_wp2_with fail
  refine (HI.out _).mono ?_
  rintro e w2 ⟨rfl, hb2⟩
  go_wp2
  go_ret
  exact ⟨rfl, hb1.trans (hb2.mono hb1.size)⟩

set_option maxRecDepth 100000 in
set_option maxHeartbeats 1600000 in
theorem lawPathOfBrackets (s : ByteArray) (P : ByteArray) (B : Bool) (w : World) (ms : s.size ≤ 9223372036854775807)
    (hS : s.size ≤ 1048576 → ∀ w, Calls Try.prog 11 #[.string s] w fun e w' => e = .returned (.tuple #[.string P, .bool B]) ∧ Below w.heap.size w w')
    (hI : s.size ≤ 1048576 → ∀ w, Calls Try.prog 12 #[.string s] w fun e w' => e = .returned (.tuple #[.string P, .bool B]) ∧ Below w.heap.size w w') :
    Calls Try.prog 4 #[.string s] w fun e w' => e = .returned (.bool true) ∧ Below w.heap.size w w' := by
  by_cases hs : 1048576 < s.size
  · have bs : (1048576 : Int) < (s.size : Int) := by omega
    clear hS hI
    go_enter Try.func4, Try.ntmps4
    go_wp2
    go_ret
    exact ⟨rfl, Below.refl _ _⟩
  have HS := Lib.hid (hS (by omega))
  have HI := Lib.hid (hI (by omega))
  clear hS hI
  have hP1 : (P.toList != P.toList) = false := by simp
  have hB1 : (B != B) = false := by simp
  go_enter Try.func4, Try.ntmps4
  go_wp2_with fail
  refine (HS.out _).mono ?_
  rintro e w1 ⟨rfl, hb1⟩
  go_wp2_with fail
  refine (HI.out _).mono ?_
  rintro e w2 ⟨rfl, hb2⟩
  go_wp2
  go_ret
  exact ⟨rfl, hb1.trans (hb2.mono hb1.size)⟩

set_option maxRecDepth 100000 in
set_option maxHeartbeats 1600000 in
theorem lawPartnerOf (s : ByteArray) (n : Int) (z : Int) (w : World) (ms : s.size ≤ 9223372036854775807)
    (hS : s.size ≤ 1048576 → ∀ w, Calls Try.prog 13 #[.string s, .int .i64 n] w fun e w' => e = .returned (.int .i64 z) ∧ Below w.heap.size w w')
    (hI : s.size ≤ 1048576 → ∀ w, Calls Try.prog 14 #[.string s, .int .i64 n] w fun e w' => e = .returned (.int .i64 z) ∧ Below w.heap.size w w') :
    Calls Try.prog 5 #[.string s, .int .i64 n] w fun e w' => e = .returned (.bool true) ∧ Below w.heap.size w w' := by
  by_cases hs : 1048576 < s.size
  · have bs : (1048576 : Int) < (s.size : Int) := by omega
    clear hS hI
    go_enter Try.func5, Try.ntmps5
    go_wp2
    go_ret
    exact ⟨rfl, Below.refl _ _⟩
  have HS := Lib.hid (hS (by omega))
  have HI := Lib.hid (hI (by omega))
  clear hS hI
  go_enter Try.func5, Try.ntmps5
  go_wp2_with fail
  refine (HS.out _).mono ?_
  rintro e w1 ⟨rfl, hb1⟩
  go_wp2_with fail
  refine (HI.out _).mono ?_
  rintro e w2 ⟨rfl, hb2⟩
  go_wp2
  go_ret
  exact ⟨rfl, hb1.trans (hb2.mono hb1.size)⟩

set_option maxRecDepth 100000 in
set_option maxHeartbeats 1600000 in
theorem lawDepthOf (s : ByteArray) (z : Int) (w : World) (ms : s.size ≤ 9223372036854775807)
    (hS : s.size ≤ 1048576 → ∀ w, Calls Try.prog 15 #[.string s] w fun e w' => e = .returned (.int .i64 z) ∧ Below w.heap.size w w')
    (hI : s.size ≤ 1048576 → ∀ w, Calls Try.prog 16 #[.string s] w fun e w' => e = .returned (.int .i64 z) ∧ Below w.heap.size w w') :
    Calls Try.prog 6 #[.string s] w fun e w' => e = .returned (.bool true) ∧ Below w.heap.size w w' := by
  by_cases hs : 1048576 < s.size
  · have bs : (1048576 : Int) < (s.size : Int) := by omega
    clear hS hI
    go_enter Try.func6, Try.ntmps6
    go_wp2
    go_ret
    exact ⟨rfl, Below.refl _ _⟩
  have HS := Lib.hid (hS (by omega))
  have HI := Lib.hid (hI (by omega))
  clear hS hI
  go_enter Try.func6, Try.ntmps6
  go_wp2_with fail
  refine (HS.out _).mono ?_
  rintro e w1 ⟨rfl, hb1⟩
  go_wp2_with fail
  refine (HI.out _).mono ?_
  rintro e w2 ⟨rfl, hb2⟩
  go_wp2
  go_ret
  exact ⟨rfl, hb1.trans (hb2.mono hb1.size)⟩

set_option maxRecDepth 100000 in
set_option maxHeartbeats 1600000 in
theorem lawNestedPairs (s : ByteArray) (z : Int) (w : World) (ms : s.size ≤ 9223372036854775807)
    (hS : s.size ≤ 1048576 → ∀ w, Calls Try.prog 17 #[.string s] w fun e w' => e = .returned (.int .i64 z) ∧ Below w.heap.size w w')
    (hI : s.size ≤ 1048576 → ∀ w, Calls Try.prog 18 #[.string s] w fun e w' => e = .returned (.int .i64 z) ∧ Below w.heap.size w w') :
    Calls Try.prog 7 #[.string s] w fun e w' => e = .returned (.bool true) ∧ Below w.heap.size w w' := by
  by_cases hs : 1048576 < s.size
  · have bs : (1048576 : Int) < (s.size : Int) := by omega
    clear hS hI
    go_enter Try.func7, Try.ntmps7
    go_wp2
    go_ret
    exact ⟨rfl, Below.refl _ _⟩
  have HS := Lib.hid (hS (by omega))
  have HI := Lib.hid (hI (by omega))
  clear hS hI
  go_enter Try.func7, Try.ntmps7
  go_wp2_with fail
  refine (HS.out _).mono ?_
  rintro e w1 ⟨rfl, hb1⟩
  go_wp2_with fail
  refine (HI.out _).mono ?_
  rintro e w2 ⟨rfl, hb2⟩
  go_wp2
  go_ret
  exact ⟨rfl, hb1.trans (hb2.mono hb1.size)⟩

set_option maxRecDepth 100000 in
set_option maxHeartbeats 1600000 in
theorem lawShiftBrackets (s : ByteArray) (P : ByteArray) (B : Bool) (w : World) (ms : s.size ≤ 9223372036854775807)
    (hS : s.size ≤ 1048576 → ∀ w, Calls Try.prog 19 #[.string s] w fun e w' => e = .returned (.tuple #[.string P, .bool B]) ∧ Below w.heap.size w w')
    (hI : s.size ≤ 1048576 → ∀ w, Calls Try.prog 20 #[.string s] w fun e w' => e = .returned (.tuple #[.string P, .bool B]) ∧ Below w.heap.size w w') :
    Calls Try.prog 8 #[.string s] w fun e w' => e = .returned (.bool true) ∧ Below w.heap.size w w' := by
  by_cases hs : 1048576 < s.size
  · have bs : (1048576 : Int) < (s.size : Int) := by omega
    clear hS hI
    go_enter Try.func8, Try.ntmps8
    go_wp2
    go_ret
    exact ⟨rfl, Below.refl _ _⟩
  have HS := Lib.hid (hS (by omega))
  have HI := Lib.hid (hI (by omega))
  clear hS hI
  have hP1 : (P.toList != P.toList) = false := by simp
  have hB1 : (B != B) = false := by simp
  go_enter Try.func8, Try.ntmps8
  go_wp2_with fail
  refine (HS.out _).mono ?_
  rintro e w1 ⟨rfl, hb1⟩
  go_wp2_with fail
  refine (HI.out _).mono ?_
  rintro e w2 ⟨rfl, hb2⟩
  go_wp2
  go_ret
  exact ⟨rfl, hb1.trans (hb2.mono hb1.size)⟩

end Go.Proofs.Ytdnkddmnijckhaa
