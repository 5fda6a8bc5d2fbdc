/- The walks of laws of functions that answer []string (written by tools/genlawst.py). -/
import Derived.Test.YtjmdamjbbggncaaSpec2F
namespace Go.Proofs.Ytjmdamjbbggncaa
open Go.ChangeShapes Go.WideShapes Go.ChangeAt Go.RowKit
set_option linter.unusedVariables false

set_option maxRecDepth 100000 in
set_option maxHeartbeats 1600000 in
theorem lawStatisticNames (xs : List ByteArray) (hl : xs.length ≤ 1048576) (hS : ∀ w, Calls Try.prog 4 #[] w (AnsS xs w)) (hI : ∀ w, Calls Try.prog 5 #[] w (AnsS xs w))
    (w : World) : Calls Try.prog 3 #[] w fun e w' => e = .returned (.bool true) ∧ Below w.heap.size w w' := by
  have HS := Lib.hid hS
  have HI := Lib.hid hI
  clear hS hI
  go_enter Try.func3, Try.ntmps3
  go_wp2_with fail
  refine (HS.out _).mono ?_
  rintro e w1 ⟨v0, rfl, ho, hb⟩
  have HO0 := Lib.hid ho
  have HB1 := Lib.hid hb
  have z1 := hb.size
  clear ho hb
  go_wp2_with fail
  refine (HI.out _).mono ?_
  rintro e w2 ⟨v1, rfl, ho, hb⟩
  have HO1 := Lib.hid ho
  have HO0 := Lib.hid (HO0.out.keep hb (Nat.le_refl _))
  have HB2 := Lib.hid (HB1.out.trans (hb.mono z1))
  have z2 := hb.size
  clear ho hb
  go_wp2_with fail
  refine (eqS_same _ _ _ _ _ _ xs _ HO1.out HO0.out (by omega)).mono ?_
  rintro e w3 ⟨rfl, hb⟩
  have HO1 := Lib.hid (HO1.out.keep hb (Nat.le_refl _))
  have HO0 := Lib.hid (HO0.out.keep hb z2)
  have HB3 := Lib.hid (HB2.out.trans (hb.mono (by omega)))
  have z3 := hb.size
  clear hb
  go_wp2_with fail
  refine (markS1 _ _ _ xs _ HO1.out (by omega) (by omega) (by omega)).mono ?_
  rintro e w4 ⟨rfl, ho, hb⟩
  have HO1 := Lib.hid ho
  have HO0 := Lib.hid (HO0.out.keep hb (Nat.le_refl _))
  have HB4 := Lib.hid (HB3.out.trans (hb.mono z1))
  have z4 := hb.size
  clear ho hb
  have e1 : (1 : Int) + (xs.length : Int) = (1 : Int) + (xs.length : Int) := rfl
  go_wp2_with fail
  refine (heldS1 _ _ _ xs.length _ HO1.out (by omega) (by omega)).mono ?_
  rintro e w5 ⟨rfl, hb⟩
  have HO1 := Lib.hid (HO1.out.keep hb (by omega))
  have HO0 := Lib.hid (HO0.out.keep hb (by omega))
  have HB4 := Lib.hid (HB4.out.trans (hb.mono (by omega)))
  have z5 := hb.size
  clear hb
  go_wp2_with fail
  refine (HI.out _).mono ?_
  rintro e w6 ⟨v2, rfl, ho, hb⟩
  have HO2 := Lib.hid ho
  have HO1 := Lib.hid (HO1.out.keep hb (by omega))
  have HO0 := Lib.hid (HO0.out.keep hb (by omega))
  have HB6 := Lib.hid (HB4.out.trans (hb.mono (by omega)))
  have z6 := hb.size
  clear ho hb
  go_wp2_with fail
  refine (eqS_same _ _ _ _ _ _ xs _ HO2.out HO0.out (by omega)).mono ?_
  rintro e w7 ⟨rfl, hb⟩
  have HO1 := Lib.hid (HO1.out.keep hb (by omega))
  have HB7 := Lib.hid (HB6.out.trans (hb.mono (by omega)))
  have z7 := hb.size
  clear hb
  go_wp2_with fail
  refine (heldS1 _ _ _ xs.length _ HO1.out (by omega) (by omega)).mono ?_
  rintro e w8 ⟨rfl, hb8⟩
  have HB7 := Lib.hid (HB7.out.trans (hb8.mono (by omega)))
  go_wp2
  go_ret
  exact ⟨rfl, HB7.out⟩

end Go.Proofs.Ytjmdamjbbggncaa
