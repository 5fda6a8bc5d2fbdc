/- FamilyNames, both functions (written by tools/mk15.py). -/
import Derived.Test.YtpcpfhcioeaifaaStrs
import Derived.Test.YtpcpfhcioeaifaaLawLists
namespace Go.Proofs.Ytpcpfhcioeaifaa
open Go.ChangeShapes Go.WideShapes Go.ChangeAt Go.RowKit
set_option linter.unusedVariables false

def nmL : List ByteArray := [⟨#[109, 97, 116, 99, 104, 105, 110, 103, 115]⟩, ⟨#[112, 97, 114, 116, 105, 116, 105, 111, 110, 115]⟩, ⟨#[116, 114, 105, 97, 110, 103, 117, 108, 97, 116, 105, 111, 110, 115]⟩]
theorem nm_own (w : World) : OwnS (w.alloc (.cells #[.string ⟨#[109, 97, 116, 99, 104, 105, 110, 103, 115]⟩, .string ⟨#[112, 97, 114, 116, 105, 116, 105, 111, 110, 115]⟩, .string ⟨#[116, 114, 105, 97, 110, 103, 117, 108, 97, 116, 105, 111, 110, 115]⟩] 9)) w.heap.size (w.alloc (.cells #[.string ⟨#[109, 97, 116, 99, 104, 105, 110, 103, 115]⟩, .string ⟨#[112, 97, 114, 116, 105, 116, 105, 111, 110, 115]⟩, .string ⟨#[116, 114, 105, 97, 110, 103, 117, 108, 97, 116, 105, 111, 110, 115]⟩] 9)).heap.size (.slice (some ⟨w.heap.size, 0, none⟩) 3 3) nmL := by
  refine ⟨_, _, rfl, .inr ⟨w.heap.size, #[.string ⟨#[109, 97, 116, 99, 104, 105, 110, 103, 115]⟩, .string ⟨#[112, 97, 114, 116, 105, 116, 105, 111, 110, 115]⟩, .string ⟨#[116, 114, 105, 97, 110, 103, 117, 108, 97, 116, 105, 111, 110, 115]⟩], Nat.le_refl _, by simp, rfl, Array.getElem?_push_size, fun j hj => ?_⟩⟩
  have hj' : j < 3 := hj
  match j, hj' with
  | 0, _ => rfl
  | 1, _ => rfl
  | 2, _ => rfl
set_option maxRecDepth 100000 in
theorem names (w : World) : Calls Try.prog 17 #[] w (AnsS nmL w) := by
  have HO := Lib.hid (nm_own w)
  go_enter Try.func17, Try.ntmps17
  go_wp2
  go_ret
  exact ⟨_, rfl, HO.out, (Below.refl _ _).alloc (Nat.le_refl _) _⟩
set_option maxRecDepth 100000 in
theorem namesI (w : World) : Calls Try.prog 18 #[] w (AnsS nmL w) := by
  have HO := Lib.hid (nm_own w)
  go_enter Try.func18, Try.ntmps18
  go_wp2
  go_ret
  exact ⟨_, rfl, HO.out, (Below.refl _ _).alloc (Nat.le_refl _) _⟩

end Go.Proofs.Ytpcpfhcioeaifaa
