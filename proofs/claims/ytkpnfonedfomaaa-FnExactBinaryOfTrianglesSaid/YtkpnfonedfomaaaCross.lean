/- Two chords that cross, one that contains the other. -/
import Derived.Test.YtkpnfonedfomaaaSpec2G
namespace Go.Proofs.Ytkpnfonedfomaaa
open Go.ChangeShapes Go.WideShapes Go.ChangeAt Go.RowKit
set_option linter.unusedVariables false

def crossB (f1 t1 f2 t2 : Int) : Bool := decide (f1 < f2 ∧ f2 < t1 ∧ t1 < t2 ∨ f2 < f1 ∧ f1 < t2 ∧ t2 < t1)
set_option maxRecDepth 100000 in
set_option maxHeartbeats 3200000 in
theorem crossesC (f1 t1 f2 t2 : Int) (w : World) :
    Calls Try.prog 64 #[.agg #[.int .i64 f1, .int .i64 t1], .agg #[.int .i64 f2, .int .i64 t2]] w fun e w' => e = .returned (.bool (crossB f1 t1 f2 t2)) ∧ Below w.heap.size w w' := by
  by_cases p1 : f1 < f2
  · have d1 : decide (f1 < f2) = true := decide_eq_true p1
    have r1 : ¬ f2 < f1 := by omega
    have e1 : decide (f2 < f1) = false := decide_eq_false r1
    by_cases p2 : f2 < t1
    · have d2 : decide (f2 < t1) = true := decide_eq_true p2
      by_cases p3 : t1 < t2
      · have d3 : decide (t1 < t2) = true := decide_eq_true p3
        have HR := Lib.hid (show crossB f1 t1 f2 t2 = true from decide_eq_true (.inl ⟨p1, p2, p3⟩))
        go_enter Try.func64, Try.ntmps64
        go_wp2
        go_ret
        exact ⟨ret_bool HR.out.symm, ((Below.refl _ w).alloc (Nat.le_refl _) _).alloc (by simp) _⟩
      · have d3 : decide (t1 < t2) = false := decide_eq_false p3
        have HR := Lib.hid (show crossB f1 t1 f2 t2 = false from decide_eq_false (by omega))
        go_enter Try.func64, Try.ntmps64
        go_wp2
        go_ret
        exact ⟨ret_bool HR.out.symm, ((Below.refl _ w).alloc (Nat.le_refl _) _).alloc (by simp) _⟩
    · have d2 : decide (f2 < t1) = false := decide_eq_false p2
      have HR := Lib.hid (show crossB f1 t1 f2 t2 = false from decide_eq_false (by omega))
      go_enter Try.func64, Try.ntmps64
      go_wp2
      go_ret
      exact ⟨ret_bool HR.out.symm, ((Below.refl _ w).alloc (Nat.le_refl _) _).alloc (by simp) _⟩
  · have d1 : decide (f1 < f2) = false := decide_eq_false p1
    by_cases p2 : f2 < f1
    · have d2 : decide (f2 < f1) = true := decide_eq_true p2
      by_cases p3 : f1 < t2
      · have d3 : decide (f1 < t2) = true := decide_eq_true p3
        by_cases p4 : t2 < t1
        · have d4 : decide (t2 < t1) = true := decide_eq_true p4
          have HR := Lib.hid (show crossB f1 t1 f2 t2 = true from decide_eq_true (.inr ⟨p2, p3, p4⟩))
          go_enter Try.func64, Try.ntmps64
          go_wp2
          go_ret
          exact ⟨ret_bool HR.out.symm, ((Below.refl _ w).alloc (Nat.le_refl _) _).alloc (by simp) _⟩
        · have d4 : decide (t2 < t1) = false := decide_eq_false p4
          have HR := Lib.hid (show crossB f1 t1 f2 t2 = false from decide_eq_false (by omega))
          go_enter Try.func64, Try.ntmps64
          go_wp2
          go_ret
          exact ⟨ret_bool HR.out.symm, ((Below.refl _ w).alloc (Nat.le_refl _) _).alloc (by simp) _⟩
      · have d3 : decide (f1 < t2) = false := decide_eq_false p3
        have HR := Lib.hid (show crossB f1 t1 f2 t2 = false from decide_eq_false (by omega))
        go_enter Try.func64, Try.ntmps64
        go_wp2
        go_ret
        exact ⟨ret_bool HR.out.symm, ((Below.refl _ w).alloc (Nat.le_refl _) _).alloc (by simp) _⟩
    · have d2 : decide (f2 < f1) = false := decide_eq_false p2
      have HR := Lib.hid (show crossB f1 t1 f2 t2 = false from decide_eq_false (by omega))
      go_enter Try.func64, Try.ntmps64
      go_wp2
      go_ret
      exact ⟨ret_bool HR.out.symm, ((Below.refl _ w).alloc (Nat.le_refl _) _).alloc (by simp) _⟩

def contB (f1 t1 f2 t2 : Int) : Bool := decide (f1 < f2 ∧ t2 < t1)
end Go.Proofs.Ytkpnfonedfomaaa
