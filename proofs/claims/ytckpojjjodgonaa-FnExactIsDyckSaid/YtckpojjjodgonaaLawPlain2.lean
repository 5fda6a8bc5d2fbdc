/- The walks of the laws of chapter 2 over plain answers, from the two functions' contracts. -/
import Derived.Test.YtckpojjjodgonaaSpec2E
namespace Go.Proofs.Ytckpojjjodgonaa
open Go.ChangeShapes Go.WideShapes Go.ChangeAt Go.RowKit
set_option linter.unusedVariables false

set_option maxRecDepth 100000 in
set_option maxHeartbeats 1600000 in
theorem lawIsDyck (s : ByteArray) (B : Bool) (w : World) (ms : s.size ≤ 9223372036854775807)
    (hS : s.size ≤ 1048576 → ∀ w, Calls Try.prog 21 #[.string s] w fun e w' => e = .returned (.bool B) ∧ Below w.heap.size w w')
    (hI : s.size ≤ 1048576 → ∀ w, Calls Try.prog 22 #[.string s] w fun e w' => e = .returned (.bool B) ∧ Below w.heap.size w w') :
    Calls Try.prog 4 #[.string s] w fun e w' => e = .returned (.bool true) ∧ Below w.heap.size w w' := by
  by_cases hs : 1048576 < s.size
  · have bs : (1048576 : Int) < (s.size : Int) := by omega
    clear hS hI
    go_enter Try.func4, Try.ntmps4
    go_wp2
    go_ret
    exact ⟨rfl, Below.refl _ _⟩
  have HS := Lib.hid (hS (by omega))
  have HI := Lib.hid (hI (by omega))
  clear hS hI
  have hB1 : (B != B) = false := by simp
  go_enter Try.func4, Try.ntmps4
  go_wp2_with fail
  refine (HS.out _).mono ?_
  rintro e w1 ⟨rfl, hb1⟩
  go_wp2_with fail
  refine (HI.out _).mono ?_
  rintro e w2 ⟨rfl, hb2⟩
  go_wp2
  go_ret
  exact ⟨rfl, hb1.trans (hb2.mono hb1.size)⟩

set_option maxRecDepth 100000 in
set_option maxHeartbeats 1600000 in
theorem lawSizeOf (s : ByteArray) (z : Int) (w : World) (ms : s.size ≤ 9223372036854775807)
    (hS : s.size ≤ 1048576 → ∀ w, Calls Try.prog 24 #[.string s] w fun e w' => e = .returned (.int .i64 z) ∧ Below w.heap.size w w')
    (hI : s.size ≤ 1048576 → ∀ w, Calls Try.prog 23 #[.string s] w fun e w' => e = .returned (.int .i64 z) ∧ Below w.heap.size w w') :
    Calls Try.prog 5 #[.string s] w fun e w' => e = .returned (.bool true) ∧ Below w.heap.size w w' := by
  by_cases hs : 1048576 < s.size
  · have bs : (1048576 : Int) < (s.size : Int) := by omega
    clear hS hI
    go_enter Try.func5, Try.ntmps5
    go_wp2
    go_ret
    exact ⟨rfl, Below.refl _ _⟩
  have HS := Lib.hid (hS (by omega))
  have HI := Lib.hid (hI (by omega))
  clear hS hI
  go_enter Try.func5, Try.ntmps5
  go_wp2_with fail
  refine (HS.out _).mono ?_
  rintro e w1 ⟨rfl, hb1⟩
  go_wp2_with fail
  refine (HI.out _).mono ?_
  rintro e w2 ⟨rfl, hb2⟩
  go_wp2
  go_ret
  exact ⟨rfl, hb1.trans (hb2.mono hb1.size)⟩

set_option maxRecDepth 100000 in
set_option maxHeartbeats 1600000 in
theorem lawPeaksOf (s : ByteArray) (z : Int) (w : World) (ms : s.size ≤ 9223372036854775807)
    (hS : s.size ≤ 1048576 → ∀ w, Calls Try.prog 40 #[.string s] w fun e w' => e = .returned (.int .i64 z) ∧ Below w.heap.size w w')
    (hI : s.size ≤ 1048576 → ∀ w, Calls Try.prog 35 #[.string s] w fun e w' => e = .returned (.int .i64 z) ∧ Below w.heap.size w w') :
    Calls Try.prog 8 #[.string s] w fun e w' => e = .returned (.bool true) ∧ Below w.heap.size w w' := by
  by_cases hs : 1048576 < s.size
  · have bs : (1048576 : Int) < (s.size : Int) := by omega
    clear hS hI
    go_enter Try.func8, Try.ntmps8
    go_wp2
    go_ret
    exact ⟨rfl, Below.refl _ _⟩
  have HS := Lib.hid (hS (by omega))
  have HI := Lib.hid (hI (by omega))
  clear hS hI
  go_enter Try.func8, Try.ntmps8
  go_wp2_with fail
  refine (HS.out _).mono ?_
  rintro e w1 ⟨rfl, hb1⟩
  go_wp2_with fail
  refine (HI.out _).mono ?_
  rintro e w2 ⟨rfl, hb2⟩
  go_wp2
  go_ret
  exact ⟨rfl, hb1.trans (hb2.mono hb1.size)⟩

set_option maxRecDepth 100000 in
set_option maxHeartbeats 1600000 in
theorem lawReturnsOf (s : ByteArray) (z : Int) (w : World) (ms : s.size ≤ 9223372036854775807)
    (hS : s.size ≤ 1048576 → ∀ w, Calls Try.prog 41 #[.string s] w fun e w' => e = .returned (.int .i64 z) ∧ Below w.heap.size w w')
    (hI : s.size ≤ 1048576 → ∀ w, Calls Try.prog 29 #[.string s] w fun e w' => e = .returned (.int .i64 z) ∧ Below w.heap.size w w') :
    Calls Try.prog 9 #[.string s] w fun e w' => e = .returned (.bool true) ∧ Below w.heap.size w w' := by
  by_cases hs : 1048576 < s.size
  · have bs : (1048576 : Int) < (s.size : Int) := by omega
    clear hS hI
    go_enter Try.func9, Try.ntmps9
    go_wp2
    go_ret
    exact ⟨rfl, Below.refl _ _⟩
  have HS := Lib.hid (hS (by omega))
  have HI := Lib.hid (hI (by omega))
  clear hS hI
  go_enter Try.func9, Try.ntmps9
  go_wp2_with fail
  refine (HS.out _).mono ?_
  rintro e w1 ⟨rfl, hb1⟩
  go_wp2_with fail
  refine (HI.out _).mono ?_
  rintro e w2 ⟨rfl, hb2⟩
  go_wp2
  go_ret
  exact ⟨rfl, hb1.trans (hb2.mono hb1.size)⟩

set_option maxRecDepth 100000 in
set_option maxHeartbeats 1600000 in
theorem lawAreaOf (s : ByteArray) (z : Int) (w : World) (ms : s.size ≤ 9223372036854775807)
    (hS : s.size ≤ 1048576 → ∀ w, Calls Try.prog 42 #[.string s] w fun e w' => e = .returned (.int .i64 z) ∧ Below w.heap.size w w')
    (hI : s.size ≤ 1048576 → ∀ w, Calls Try.prog 28 #[.string s] w fun e w' => e = .returned (.int .i64 z) ∧ Below w.heap.size w w') :
    Calls Try.prog 10 #[.string s] w fun e w' => e = .returned (.bool true) ∧ Below w.heap.size w w' := by
  by_cases hs : 1048576 < s.size
  · have bs : (1048576 : Int) < (s.size : Int) := by omega
    clear hS hI
    go_enter Try.func10, Try.ntmps10
    go_wp2
    go_ret
    exact ⟨rfl, Below.refl _ _⟩
  have HS := Lib.hid (hS (by omega))
  have HI := Lib.hid (hI (by omega))
  clear hS hI
  go_enter Try.func10, Try.ntmps10
  go_wp2_with fail
  refine (HS.out _).mono ?_
  rintro e w1 ⟨rfl, hb1⟩
  go_wp2_with fail
  refine (HI.out _).mono ?_
  rintro e w2 ⟨rfl, hb2⟩
  go_wp2
  go_ret
  exact ⟨rfl, hb1.trans (hb2.mono hb1.size)⟩

set_option maxRecDepth 100000 in
set_option maxHeartbeats 1600000 in
theorem lawReversePath (s : ByteArray) (P : ByteArray) (B : Bool) (w : World) (ms : s.size ≤ 9223372036854775807)
    (hS : s.size ≤ 1048576 → ∀ w, Calls Try.prog 34 #[.string s] w fun e w' => e = .returned (.tuple #[.string P, .bool B]) ∧ Below w.heap.size w w')
    (hI : s.size ≤ 1048576 → ∀ w, Calls Try.prog 33 #[.string s] w fun e w' => e = .returned (.tuple #[.string P, .bool B]) ∧ Below w.heap.size w w') :
    Calls Try.prog 11 #[.string s] w fun e w' => e = .returned (.bool true) ∧ Below w.heap.size w w' := by
  by_cases hs : 1048576 < s.size
  · have bs : (1048576 : Int) < (s.size : Int) := by omega
    clear hS hI
    go_enter Try.func11, Try.ntmps11
    go_wp2
    go_ret
    exact ⟨rfl, Below.refl _ _⟩
  have HS := Lib.hid (hS (by omega))
  have HI := Lib.hid (hI (by omega))
  clear hS hI
  have hP1 : (P.toList != P.toList) = false := by simp
  have hB1 : (B != B) = false := by simp
  go_enter Try.func11, Try.ntmps11
  go_wp2_with fail
  refine (HS.out _).mono ?_
  rintro e w1 ⟨rfl, hb1⟩
  go_wp2_with fail
  refine (HI.out _).mono ?_
  rintro e w2 ⟨rfl, hb2⟩
  go_wp2
  go_ret
  exact ⟨rfl, hb1.trans (hb2.mono hb1.size)⟩

set_option maxRecDepth 100000 in
set_option maxHeartbeats 1600000 in
theorem lawFirstReturn (s : ByteArray) (P Q : ByteArray) (B : Bool) (w : World) (ms : s.size ≤ 9223372036854775807)
    (hS : s.size ≤ 1048576 → ∀ w, Calls Try.prog 26 #[.string s] w fun e w' => e = .returned (.tuple #[.string P, .string Q, .bool B]) ∧ Below w.heap.size w w')
    (hI : s.size ≤ 1048576 → ∀ w, Calls Try.prog 25 #[.string s] w fun e w' => e = .returned (.tuple #[.string P, .string Q, .bool B]) ∧ Below w.heap.size w w') :
    Calls Try.prog 12 #[.string s] w fun e w' => e = .returned (.bool true) ∧ Below w.heap.size w w' := by
  by_cases hs : 1048576 < s.size
  · have bs : (1048576 : Int) < (s.size : Int) := by omega
    clear hS hI
    go_enter Try.func12, Try.ntmps12
    go_wp2
    go_ret
    exact ⟨rfl, Below.refl _ _⟩
  have HS := Lib.hid (hS (by omega))
  have HI := Lib.hid (hI (by omega))
  clear hS hI
  have hP1 : (P.toList != P.toList) = false := by simp
  have hQ1 : (Q.toList != Q.toList) = false := by simp
  have hB1 : (B != B) = false := by simp
  go_enter Try.func12, Try.ntmps12
  go_wp2_with fail
  refine (HS.out _).mono ?_
  rintro e w1 ⟨rfl, hb1⟩
  go_wp2_with fail
  refine (HI.out _).mono ?_
  rintro e w2 ⟨rfl, hb2⟩
  go_wp2
  go_ret
  exact ⟨rfl, hb1.trans (hb2.mono hb1.size)⟩

set_option maxRecDepth 100000 in
set_option maxHeartbeats 1600000 in
theorem lawJoinAtReturn (s t : ByteArray) (P : ByteArray) (B : Bool) (w : World) (ms : s.size ≤ 9223372036854775807) (mt : t.size ≤ 9223372036854775807)
    (hS : s.size ≤ 1048576 → t.size ≤ 1048576 → ∀ w, Calls Try.prog 39 #[.string s, .string t] w fun e w' => e = .returned (.tuple #[.string P, .bool B]) ∧ Below w.heap.size w w')
    (hI : s.size ≤ 1048576 → t.size ≤ 1048576 → ∀ w, Calls Try.prog 27 #[.string s, .string t] w fun e w' => e = .returned (.tuple #[.string P, .bool B]) ∧ Below w.heap.size w w') :
    Calls Try.prog 13 #[.string s, .string t] w fun e w' => e = .returned (.bool true) ∧ Below w.heap.size w w' := by
  by_cases hs : 1048576 < s.size
  · have bs : (1048576 : Int) < (s.size : Int) := by omega
    clear hS hI
    go_enter Try.func13, Try.ntmps13
    go_wp2
    go_ret
    exact ⟨rfl, Below.refl _ _⟩
  by_cases ht : 1048576 < t.size
  · have bt : (1048576 : Int) < (t.size : Int) := by omega
    clear hS hI
    go_enter Try.func13, Try.ntmps13
    go_wp2
    go_ret
    exact ⟨rfl, Below.refl _ _⟩
  have HS := Lib.hid (hS (by omega) (by omega))
  have HI := Lib.hid (hI (by omega) (by omega))
  clear hS hI
  have hP1 : (P.toList != P.toList) = false := by simp
  have hB1 : (B != B) = false := by simp
  go_enter Try.func13, Try.ntmps13
  go_wp2_with fail
  refine (HS.out _).mono ?_
  rintro e w1 ⟨rfl, hb1⟩
  go_wp2_with fail
  refine (HI.out _).mono ?_
  rintro e w2 ⟨rfl, hb2⟩
  go_wp2
  go_ret
  exact ⟨rfl, hb1.trans (hb2.mono hb1.size)⟩

end Go.Proofs.Ytckpojjjodgonaa
