/- DividePolynomials, the model (written by tools/mk14d.py). -/
import Derived.Test.YtpelicepgeoopaaDiv14
import Derived.Test.YtpelicepgeoopaaAppA
import Derived.Test.YtpelicepgeoopaaAdd14
import Derived.OwnWalk
namespace Go.Proofs.Ytpelicepgeoopaa
open Go.ChangeShapes Go.WideShapes Go.ChangeAt Go.RowKit
set_option linter.unusedVariables false

def AnsQ (X Y : List Int) (b : Bool) (w : World) (e : Ending) (w' : World) : Prop :=
  ∃ v u m, e = .returned (.tuple #[v, u, .bool b]) ∧ OwnI w' w.heap.size m v X ∧ OwnI w' m w'.heap.size u Y ∧ w.heap.size ≤ m ∧ m ≤ w'.heap.size ∧ Below w.heap.size w w'
theorem ans_no {xs ys : List Int} {w w' : World} {A B : Option Addr} {c d : Nat} (h : dvOk xs ys = false) (hb : Below w.heap.size w w') : AnsQ (dvX xs ys) (dvY xs ys) (dvOk xs ys) w (.returned (.tuple #[.slice A 0 c, .slice B 0 d, .bool false])) w' := by
  refine ⟨.slice A 0 c, .slice B 0 d, w.heap.size, by rw [h], ?_, ?_, Nat.le_refl _, hb.size, hb⟩
  · rw [show dvX xs ys = [] from if_neg (by rw [h]; simp)]; exact ⟨_, _, rfl, .inl rfl⟩
  · rw [show dvY xs ys = [] from if_neg (by rw [h]; simp)]; exact ⟨_, _, rfl, .inl rfl⟩
theorem two_alloc {w : World} (o o' : Obj) : Below w.heap.size w ((w.alloc o).alloc o') := ((Below.refl _ w).alloc (Nat.le_refl _) o).alloc (by simp) o'
theorem dis_length {b : List Int} (h : ¬ (1 ≤ b.length ∧ b.length ≤ 13)) : disB b = false := by unfold disB; rw [decide_eq_false h]; rfl
theorem dis_last {b : List Int} (h : b.getD (b.length - 1) 0 ≠ 1) : disB b = false := by unfold disB; rw [decide_eq_false h]; simp
theorem dis_in {b : List Int} (h : inB 1 b = false) : disB b = false := by unfold disB; rw [h]; simp
theorem dv_no1 {a b : List Int} (h : facB a = false) : dvOk a b = false := decide_eq_false fun g => by rw [g.1] at h; cases h
theorem dv_no2 {a b : List Int} (h : disB b = false) : dvOk a b = false := decide_eq_false fun g => by rw [g.2.1] at h; cases h

end Go.Proofs.Ytpelicepgeoopaa
