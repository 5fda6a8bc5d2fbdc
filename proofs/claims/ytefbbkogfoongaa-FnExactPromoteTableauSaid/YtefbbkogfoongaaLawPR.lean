/- FnExactPromoteTableau: for every table PromoteTableau answers as its model. -/
import Derived.Test.YtefbbkogfoongaaRows
import Derived.Test.YtefbbkogfoongaaRowT
import Derived.Test.YtefbbkogfoongaaLawTab11
import Derived.Test.YtefbbkogfoongaaPrA11
import Derived.WalkKit
import Derived.ProofKit
import Derived.OpenShut
import Derived.ShutString
import Derived.ChangeOld
import Derived.Below
namespace Go.Proofs.Ytefbbkogfoongaa.fnExactPromoteTableau
open Go.ChangeShapes Go.WideShapes Go.ChangeAt Go.RowKit
open Go.ChangeMaps (open_string shut_string)
set_option linter.unusedVariables false

theorem own : ownKnob Try.prog.godebug = none := by kernel_rfl
theorem laidOut : laidOutB Try.prog = true := by kernel_rfl

theorem walk (v : Value) (ls : List (List Int)) (w : World) (hT : ArgT w v ls) (hm : ls.length ≤ maxLen) (hrm : ∀ j, (ls.getD j []).length ≤ maxLen) : Calls Try.prog 5 #[v] w fun e w' => e = .returned (.bool true) ∧ Below w.heap.size w w' := by
  unfold maxLen at hm
  have hrm2 : ∀ j, (ls.getD j []).length ≤ 9223372036854775807 := fun j => by have := hrm j; unfold maxLen at this; omega
  have hel := prP_rows (ls := ls)
  exact lawPromoteTableau v ls (prP ls) (tabB ls) w hT (by omega) hrm2 (by omega) (by omega) (fun hl hr u lo hi w ho hh => promoteT _ ls lo hi w ho hh hl hr) (fun hl hr u lo hi w ho hh => promoteTI _ ls lo hi w ho hh hl hr)

set_option maxRecDepth 100000 in
theorem lifted (os : Os) (started : os.Started) (H : Type) (enc : TypeId × Value → H) :
    ReturnsInHanded {} Try.checked os 5 .any (Rows.fnExactPromoteTableauSpec.pre6 enc Try.prog Try.f5 Rows.fnExactPromoteTableauRow.domain false) (Rows.fnExactPromoteTableauSpec.post enc Try.prog Try.f5 false true false false) := by
  refine returnsInHanded_of_change (C := Try.checked) own started (by kernel_rfl) Try.func5
    (ChangeSpec.witness6 (enc := enc) (C := Try.checked) false ⟨#[], #[.slice none 0 0], []⟩ 5 (by kernel_rfl) (by kernel_rfl) (by kernel_rfl) (by kernel_rfl)) ?_
  intro W base args ds gs before hval0 hW hcnd _
  have hval : ∀ (j : Nat) t v, Try.f5.params[j]? = some t → args[j]? = some v → Value.okWide Try.prog W .any base t v := hval0
  have hW' := hW
  obtain ⟨p, q, hA0, hV, rfl, hfz, hnd⟩ := hW
  have hA : DataW.TrodAll enc Try.prog W 0 (fun _ => true) true Try.f5.params.toList args.toList ds p := hA0
  rw [Try.params5] at hA hval
  obtain ⟨v0, vs0, d0, ds0, p0, q0, hargs, rfl, rfl, h0, r0⟩ := trodAll_cons hA
  obtain ⟨rfl, rfl, rfl⟩ := trodAll_nil r0
  obtain rfl : args = #[v0] := by cases args; simp_all
  obtain ⟨rfl, rfl⟩ := trodVars_none hV
  obtain ⟨a0, len0, cap0, rfl⟩ := okWide_slice Try.underlying22 (hval 0 22 v0 rfl rfl)
  have k0 := h0
  have lt0 : ∀ x ∈ p0, x.block < W.heap.size := by obtain ⟨m, hm⟩ := k0; exact DataW.trod_lt m _ _ _ hm
  obtain ⟨ls, hn, hT, hm, hrm, hwf⟩ := (by
    obtain ⟨fuel, hf⟩ := h0
    exact argT_of hf : ∃ ls : List (List Int), ls.length = len0 ∧ ArgT W (.slice a0 len0 cap0) ls ∧ len0 ≤ maxLen ∧ (∀ j, (ls.getD j []).length ≤ maxLen) ∧ ∀ j, j < ls.length → ∀ y ∈ ls.getD j [], (Lit.int .i64 y).wf = true)
  clear hA0 hval0
  refine (walk _ ls W hT (by omega) hrm).mono fun e W' ⟨he, bel⟩ => ?_
  subst he
  exact ⟨_, rfl, _, _, _, [], _, [], hW', trodAll_mk1 (shut_bool Try.underlying4 _), (trodAll_cons_mk (Below.trod laidOut (by kernel_rfl) (of_decide_eq_true (by kernel_rfl)) k0 bel lt0) trodAll_mk0), rfl, bel.frame _, fun h => by cases h⟩

theorem over : Rows.fnExactPromoteTableauRow.holds Try.pinned (OpenSpec.ofChange Rows.fnExactPromoteTableauSpec) :=
  OpenClaim.holds_of_wide 5 Try.f5 rfl rfl rfl rfl rfl rfl rfl ⟨rfl, rfl, rfl, rfl, rfl⟩ rfl rfl rfl rfl rfl (by kernel_rfl) Try.func5 (by kernel_rfl)
    (of_decide_eq_true (by kernel_rfl)) (by unfold Func.isWrapper; first | (rw [if_pos (by decide +kernel)]; kernel_rfl) | (rw [if_neg (by decide +kernel)]; exact ⟨rfl, rfl⟩))
    (fun os started H enc _ => lifted os started H enc)

theorem proved : Rows.FnExactPromoteTableauSaid :=
  over
end Go.Proofs.Ytefbbkogfoongaa.fnExactPromoteTableau
