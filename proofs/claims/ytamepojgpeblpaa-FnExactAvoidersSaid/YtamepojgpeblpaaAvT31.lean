/- The contract of the model's Avoiders. -/
import Derived.Test.YtamepojgpeblpaaAvS31
namespace Go.Proofs.Ytamepojgpeblpaa
open Go.ChangeShapes Go.WideShapes Go.ChangeAt Go.RowKit
set_option linter.unusedVariables false

set_option maxRecDepth 100000 in
set_option maxHeartbeats 1600000 in
theorem avoidersOut (n : Int) (s : ByteArray) (w : World) (h : ¬ (0 ≤ n ∧ n ≤ 5)) : Calls Try.prog 38 #[.int .i64 n, .string s] w fun e w' => ∃ v, e = .returned (.tuple #[v, .bool false]) ∧ OwnT w' w.heap.size w'.heap.size v [] ∧ Below w.heap.size w w' := by
  by_cases h1 : n < 0
  · clear h
    go_enter Try.func38, Try.ntmps38
    go_wp2_with fail
    (with_reducible refine (l1In_no1 _ _ _ _ h1).mono ?_)
    rintro e w0 ⟨rfl, rfl⟩
    go_wp2
    go_ret2
    exact ⟨_, rfl, OwnT.nil _ _ _ _ _, (Below.refl _ _).alloc (Nat.le_refl _) _⟩
  · have h2 : 5 < n := by omega
    clear h
    go_enter Try.func38, Try.ntmps38
    go_wp2_with fail
    (with_reducible refine (l1In_no2 _ _ _ _ (by omega) h2).mono ?_)
    rintro e w0 ⟨rfl, rfl⟩
    go_wp2
    go_ret2
    exact ⟨_, rfl, OwnT.nil _ _ _ _ _, (Below.refl _ _).alloc (Nat.le_refl _) _⟩

set_option maxRecDepth 100000 in
set_option maxHeartbeats 1600000 in
theorem avoidersOther (n : Int) (s : ByteArray) (w : World) (h1 : 0 ≤ n) (h2 : n ≤ 5) (b1 : (s.toList == [50, 51, 49]) = false) (b2 : (s.toList == [51, 50, 49]) = false) : Calls Try.prog 38 #[.int .i64 n, .string s] w fun e w' => ∃ v, e = .returned (.tuple #[v, .bool false]) ∧ OwnT w' w.heap.size w'.heap.size v [] ∧ Below w.heap.size w w' := by
  have b3 : ¬ s.toList = [50, 51, 49] := beq_eq_false_iff_ne.1 b1
  have b4 : ¬ s.toList = [51, 50, 49] := beq_eq_false_iff_ne.1 b2
  go_enter Try.func38, Try.ntmps38
  go_wp2_with fail
  (with_reducible refine (l1In_yes _ _ _ _ h1 h2).mono ?_)
  rintro e w0 ⟨rfl, rfl⟩
  go_wp2
  go_ret2
  exact ⟨_, rfl, OwnT.nil _ _ _ _ _, (Below.refl _ _).alloc (Nat.le_refl _) _⟩

theorem avoiders (n : Int) (s : ByteArray) (w : World) : Calls Try.prog 38 #[.int .i64 n, .string s] w fun e w' => ∃ v, e = .returned (.tuple #[v, .bool (avOk n s)]) ∧ OwnT w' w.heap.size w'.heap.size v (avP n s) ∧ Below w.heap.size w w' := by
  by_cases h : 0 ≤ n ∧ n ≤ 5
  · obtain ⟨a, rfl⟩ : ∃ a : Nat, n = (a : Int) := ⟨n.toNat, by omega⟩
    have ha : a ≤ 5 := by omega
    rcases b1 : (s.toList == [50, 51, 49]) with _ | _
    · rcases b2 : (s.toList == [51, 50, 49]) with _ | _
      · have e1 : avP (a : Int) s = [] := by unfold avP; rw [if_pos h, b1, b2]; rfl
        have e2 : avOk (a : Int) s = false := by unfold avOk; rw [b1, b2]; simp
        rw [e1, e2]
        exact avoidersOther _ s w h.1 h.2 b1 b2
      · have e1 : avP (a : Int) s = avS (pmLs a) (conB r321) (pmLs a).length := by unfold avP; rw [if_pos h, b1, b2]; rfl
        have e2 : avOk (a : Int) s = true := by unfold avOk; rw [b1, b2, decide_eq_true h]; rfl
        rw [e1, e2]
        exact avoiders321 a s w ha b2
    · have e1 : avP (a : Int) s = avS (pmLs a) (conB r231) (pmLs a).length := by unfold avP; rw [if_pos h, b1]; rfl
      have e2 : avOk (a : Int) s = true := by unfold avOk; rw [b1, decide_eq_true h]; rfl
      rw [e1, e2]
      exact avoiders231 a s w ha b1
  · have e1 : avP n s = [] := if_neg h
    have e2 : avOk n s = false := by unfold avOk; rw [decide_eq_false h]; rfl
    rw [e1, e2]
    exact avoidersOut n s w h

end Go.Proofs.Ytamepojgpeblpaa
