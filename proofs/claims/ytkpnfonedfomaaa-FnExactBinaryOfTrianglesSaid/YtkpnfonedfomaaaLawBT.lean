/- FnExactBinaryOfTriangles: for every number and every table BinaryOfTriangles answers as its model. -/
import Derived.Test.YtkpnfonedfomaaaRows
import Derived.Test.YtkpnfonedfomaaaKT
import Derived.Test.YtkpnfonedfomaaaK6
import Derived.Test.YtkpnfonedfomaaaBin7I
import Derived.WalkKit
import Derived.ProofKit
import Derived.OpenShut
import Derived.ShutString
import Derived.ChangeOld
import Derived.Below
namespace Go.Proofs.Ytkpnfonedfomaaa.fnExactBinaryOfTriangles
open Go.ChangeShapes Go.WideShapes Go.ChangeAt Go.RowKit
open Go.ChangeMaps (open_string shut_string)
set_option linter.unusedVariables false

theorem own : ownKnob Try.prog.godebug = none := by kernel_rfl
theorem laidOut : laidOutB Try.prog = true := by kernel_rfl

theorem walk (n0 : Int) (wf0 : (Lit.int .i64 n0).wf = true) (v1 : Value) (ls1 : List (List Int)) (w : World) (hT1 : ArgT w v1 ls1) (hm1 : ls1.length ≤ maxLen) (hrm1 : ∀ j, (ls1.getD j []).length ≤ maxLen) : Calls Try.prog 5 #[.int .i64 n0, v1] w fun e w' => e = .returned (.bool true) ∧ Below w.heap.size w w' := by
  unfold maxLen at hm1
  have hrm2_1 : ∀ j, (ls1.getD j []).length ≤ 9223372036854775807 := fun j => by have := hrm1 j; unfold maxLen at this; omega
  exact lawBinaryOfTriangles n0 v1 ls1 (triT n0 ls1) (triB n0 ls1) w hT1 (by omega) hrm2_1 (fun hl hr u lo hi w ho hh => binTriS n0 _ ls1 lo hi w ho hl) (fun hl hr u lo hi w ho hh => binTriI n0 _ ls1 lo hi w ho hh hl)

set_option maxRecDepth 100000 in
theorem lifted (os : Os) (started : os.Started) (H : Type) (enc : TypeId × Value → H) :
    ReturnsInHanded {} Try.checked os 5 .any (Rows.fnExactBinaryOfTrianglesSpec.pre6 enc Try.prog Try.f5 Rows.fnExactBinaryOfTrianglesRow.domain false) (Rows.fnExactBinaryOfTrianglesSpec.post enc Try.prog Try.f5 false true false false) := by
  refine returnsInHanded_of_change (C := Try.checked) own started (by kernel_rfl) Try.func5
    (ChangeSpec.witness6 (enc := enc) (C := Try.checked) false ⟨#[], #[.int .i64 0, .slice none 0 0], []⟩ 5 (by kernel_rfl) (by kernel_rfl) (by kernel_rfl) (by kernel_rfl)) ?_
  intro W base args ds gs before hval0 hW hcnd _
  have hval : ∀ (j : Nat) t v, Try.f5.params[j]? = some t → args[j]? = some v → Value.okWide Try.prog W .any base t v := hval0
  have hW' := hW
  obtain ⟨p, q, hA0, hV, rfl, hfz, hnd⟩ := hW
  have hA : DataW.TrodAll enc Try.prog W 0 (fun _ => true) true Try.f5.params.toList args.toList ds p := hA0
  rw [Try.params5] at hA hval
  obtain ⟨v0, vs0, d0, ds0, p0, q0, hargs, rfl, rfl, h0, r0⟩ := trodAll_cons hA
  obtain ⟨v1, vs1, d1, ds1, p1, q1, rfl, rfl, rfl, h1, r1⟩ := trodAll_cons r0
  obtain ⟨rfl, rfl, rfl⟩ := trodAll_nil r1
  obtain rfl : args = #[v0, v1] := by cases args; simp_all
  obtain ⟨rfl, rfl⟩ := trodVars_none hV
  obtain ⟨n0, rfl, rfl, rfl, wf0⟩ := open_int Try.underlying3 (hval 0 3 v0 rfl rfl) h0
  obtain ⟨a1, len1, cap1, rfl⟩ := okWide_slice Try.underlying22 (hval 1 22 v1 rfl rfl)
  have k1 := h1
  have lt1 : ∀ x ∈ p1, x.block < W.heap.size := by obtain ⟨m, hm⟩ := k1; exact DataW.trod_lt m _ _ _ hm
  obtain ⟨ls1, hn1, hT1, hm1, hrm1, hwf1⟩ := (by
    obtain ⟨fuel, hf⟩ := h1
    exact argT_of hf : ∃ ls : List (List Int), ls.length = len1 ∧ ArgT W (.slice a1 len1 cap1) ls ∧ len1 ≤ maxLen ∧ (∀ j, (ls.getD j []).length ≤ maxLen) ∧ ∀ j, j < ls.length → ∀ y ∈ ls.getD j [], (Lit.int .i64 y).wf = true)
  clear hA0 hval0
  refine (walk n0 wf0 _ ls1 W hT1 (by omega) hrm1).mono fun e W' ⟨he, bel⟩ => ?_
  subst he
  exact ⟨_, rfl, _, _, _, [], _, [], hW', trodAll_mk1 (shut_bool Try.underlying4 _), (trodAll_cons_mk (shut_int Try.underlying3 wf0) (trodAll_cons_mk (Below.trod laidOut (by kernel_rfl) (of_decide_eq_true (by kernel_rfl)) k1 bel lt1) trodAll_mk0)), rfl, bel.frame _, fun h => by cases h⟩

theorem over : Rows.fnExactBinaryOfTrianglesRow.holds Try.pinned (OpenSpec.ofChange Rows.fnExactBinaryOfTrianglesSpec) :=
  OpenClaim.holds_of_wide 5 Try.f5 rfl rfl rfl rfl rfl rfl rfl ⟨rfl, rfl, rfl, rfl, rfl⟩ rfl rfl rfl rfl rfl (by kernel_rfl) Try.func5 (by kernel_rfl)
    (of_decide_eq_true (by kernel_rfl)) (by unfold Func.isWrapper; first | (rw [if_pos (by decide +kernel)]; kernel_rfl) | (rw [if_neg (by decide +kernel)]; exact ⟨rfl, rfl⟩))
    (fun os started H enc _ => lifted os started H enc)

theorem proved : Rows.FnExactBinaryOfTrianglesSaid :=
  over
end Go.Proofs.Ytkpnfonedfomaaa.fnExactBinaryOfTriangles
