/- StatisticNames, both functions (written by tools/mk15.py). -/
import Derived.Test.YtjmdamjbbggncaaStrs
import Derived.Test.YtjmdamjbbggncaaLawLists
namespace Go.Proofs.Ytjmdamjbbggncaa
open Go.ChangeShapes Go.WideShapes Go.ChangeAt Go.RowKit
set_option linter.unusedVariables false

def nmL : List ByteArray := [⟨#[112, 101, 97, 107, 115]⟩, ⟨#[114, 101, 116, 117, 114, 110, 115]⟩, ⟨#[114, 105, 115, 101]⟩, ⟨#[97, 114, 101, 97]⟩, ⟨#[100, 101, 112, 116, 104]⟩, ⟨#[108, 101, 97, 118, 101, 115]⟩, ⟨#[98, 108, 111, 99, 107, 115]⟩, ⟨#[109, 97, 106, 111, 114]⟩, ⟨#[102, 97, 108, 108]⟩]
theorem nm_own (w : World) : OwnS (w.alloc (.cells #[.string ⟨#[112, 101, 97, 107, 115]⟩, .string ⟨#[114, 101, 116, 117, 114, 110, 115]⟩, .string ⟨#[114, 105, 115, 101]⟩, .string ⟨#[97, 114, 101, 97]⟩, .string ⟨#[100, 101, 112, 116, 104]⟩, .string ⟨#[108, 101, 97, 118, 101, 115]⟩, .string ⟨#[98, 108, 111, 99, 107, 115]⟩, .string ⟨#[109, 97, 106, 111, 114]⟩, .string ⟨#[102, 97, 108, 108]⟩] 9)) w.heap.size (w.alloc (.cells #[.string ⟨#[112, 101, 97, 107, 115]⟩, .string ⟨#[114, 101, 116, 117, 114, 110, 115]⟩, .string ⟨#[114, 105, 115, 101]⟩, .string ⟨#[97, 114, 101, 97]⟩, .string ⟨#[100, 101, 112, 116, 104]⟩, .string ⟨#[108, 101, 97, 118, 101, 115]⟩, .string ⟨#[98, 108, 111, 99, 107, 115]⟩, .string ⟨#[109, 97, 106, 111, 114]⟩, .string ⟨#[102, 97, 108, 108]⟩] 9)).heap.size (.slice (some ⟨w.heap.size, 0, none⟩) 9 9) nmL := by
  refine ⟨_, _, rfl, .inr ⟨w.heap.size, #[.string ⟨#[112, 101, 97, 107, 115]⟩, .string ⟨#[114, 101, 116, 117, 114, 110, 115]⟩, .string ⟨#[114, 105, 115, 101]⟩, .string ⟨#[97, 114, 101, 97]⟩, .string ⟨#[100, 101, 112, 116, 104]⟩, .string ⟨#[108, 101, 97, 118, 101, 115]⟩, .string ⟨#[98, 108, 111, 99, 107, 115]⟩, .string ⟨#[109, 97, 106, 111, 114]⟩, .string ⟨#[102, 97, 108, 108]⟩], Nat.le_refl _, by simp, rfl, Array.getElem?_push_size, fun j hj => ?_⟩⟩
  have hj' : j < 9 := hj
  match j, hj' with
  | 0, _ => rfl
  | 1, _ => rfl
  | 2, _ => rfl
  | 3, _ => rfl
  | 4, _ => rfl
  | 5, _ => rfl
  | 6, _ => rfl
  | 7, _ => rfl
  | 8, _ => rfl
set_option maxRecDepth 100000 in
theorem names (w : World) : Calls Try.prog 4 #[] w (AnsS nmL w) := by
  have HO := Lib.hid (nm_own w)
  go_enter Try.func4, Try.ntmps4
  go_wp2
  go_ret
  exact ⟨_, rfl, HO.out, (Below.refl _ _).alloc (Nat.le_refl _) _⟩
set_option maxRecDepth 100000 in
theorem namesI (w : World) : Calls Try.prog 5 #[] w (AnsS nmL w) := by
  have HO := Lib.hid (nm_own w)
  go_enter Try.func5, Try.ntmps5
  go_wp2
  go_ret
  exact ⟨_, rfl, HO.out, (Below.refl _ _).alloc (Nat.le_refl _) _⟩

end Go.Proofs.Ytjmdamjbbggncaa
