/- The walks of laws over functions that answer lists: a list of ints (HeightsOf) and a list of strings (PrimesOf), from the two functions' contracts. -/
import Derived.Test.YtckpojjjodgonaaSpec2B
import Derived.Test.YtckpojjjodgonaaStrs
namespace Go.Proofs.Ytckpojjjodgonaa
open Go.ChangeShapes Go.WideShapes Go.ChangeAt Go.RowKit
set_option linter.unusedVariables false

def AnsS (xs : List ByteArray) (w : World) (e : Ending) (w' : World) : Prop := ∃ v, e = .returned v ∧ OwnS w' w.heap.size w'.heap.size v xs ∧ Below w.heap.size w w'

set_option maxRecDepth 100000 in
set_option maxHeartbeats 1600000 in
theorem lawHeights (s : ByteArray) (xs : List Int) (hl : xs.length ≤ 1000000) (hS : ∀ w, Calls Try.prog 20 #[.string s] w (AnsI xs w)) (hI : ∀ w, Calls Try.prog 17 #[.string s] w (AnsI xs w))
    (w : World) (hs : s.size ≤ 1048576) : Calls Try.prog 6 #[.string s] w fun e w' => e = .returned (.bool true) ∧ Below w.heap.size w w' := by
  have HS := Lib.hid hS
  have HI := Lib.hid hI
  clear hS hI
  go_enter Try.func6, Try.ntmps6
  go_wp2_with fail
  refine (HS.out _).mono ?_
  rintro e w1 ⟨v0, rfl, ho, hb⟩
  have HO0 := Lib.hid ho
  have HB1 := Lib.hid hb
  have z1 := hb.size
  clear ho hb
  go_wp2_with fail
  refine (HI.out _).mono ?_
  rintro e w2 ⟨v1, rfl, ho, hb⟩
  have HO1 := Lib.hid ho
  have HO0 := Lib.hid (HO0.out.keep hb (Nat.le_refl _))
  have HB2 := Lib.hid (HB1.out.trans (hb.mono z1))
  have z2 := hb.size
  clear ho hb
  go_wp2_with fail
  refine (eqI_same _ _ _ _ _ _ xs _ HO1.out HO0.out (by omega)).mono ?_
  rintro e w3 ⟨rfl, hb⟩
  have HO1 := Lib.hid (HO1.out.keep hb (Nat.le_refl _))
  have HO0 := Lib.hid (HO0.out.keep hb z2)
  have HB3 := Lib.hid (HB2.out.trans (hb.mono (by omega)))
  have z3 := hb.size
  clear hb
  go_wp2_with fail
  refine (markI _ _ _ xs 1 _ HO1.out (by omega) (by omega) (by omega)).mono ?_
  rintro e w4 ⟨rfl, ho, hb⟩
  have HO1 := Lib.hid ho
  have HO0 := Lib.hid (HO0.out.keep hb (Nat.le_refl _))
  have HB4 := Lib.hid (HB3.out.trans (hb.mono z1))
  have z4 := hb.size
  clear ho hb
  have e1 : (1 : Int) + (xs.length : Int) = (1 : Int) + (xs.length : Int) := rfl
  go_wp2_with fail
  refine (heldI _ _ _ xs.length 1 _ HO1.out (by omega) (by omega) (by omega)).mono ?_
  rintro e w5 ⟨rfl, rfl⟩
  go_wp2_with fail
  refine (HI.out _).mono ?_
  rintro e w6 ⟨v2, rfl, ho, hb⟩
  have HO2 := Lib.hid ho
  have HO1 := Lib.hid (HO1.out.keep hb (by omega))
  have HO0 := Lib.hid (HO0.out.keep hb (by omega))
  have HB6 := Lib.hid (HB4.out.trans (hb.mono (by omega)))
  have z6 := hb.size
  clear ho hb
  go_wp2_with fail
  refine (eqI_same _ _ _ _ _ _ xs _ HO2.out HO0.out (by omega)).mono ?_
  rintro e w7 ⟨rfl, hb⟩
  have HO1 := Lib.hid (HO1.out.keep hb (by omega))
  have HB7 := Lib.hid (HB6.out.trans (hb.mono (by omega)))
  clear hb
  go_wp2_with fail
  refine (heldI _ _ _ xs.length 1 _ HO1.out (by omega) (by omega) (by omega)).mono ?_
  rintro e w8 ⟨rfl, rfl⟩
  go_wp2
  go_ret
  exact ⟨rfl, HB7.out⟩

end Go.Proofs.Ytckpojjjodgonaa
