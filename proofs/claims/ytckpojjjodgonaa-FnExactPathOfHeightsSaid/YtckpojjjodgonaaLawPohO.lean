/- The walk of the law of PathOfHeights, from the two functions' contracts. -/
import Derived.Test.YtckpojjjodgonaaSpec2G
namespace Go.Proofs.Ytckpojjjodgonaa
open Go.ChangeShapes Go.WideShapes Go.ChangeAt Go.RowKit
set_option linter.unusedVariables false

set_option maxRecDepth 100000 in
set_option maxHeartbeats 1600000 in
theorem lawPathOfHeightsO (P : ByteArray) (B : Bool) (v : Value) (xs : List Int) (w : World) (hv : ArgI w v xs) (hm : xs.length ≤ 9223372036854775807)
    (hS : xs.length ≤ 1048576 → ∀ v w, ArgI w v xs → Calls Try.prog 37 #[v] w fun e w' => e = .returned (.tuple #[.string P, .bool B]) ∧ Below w.heap.size w w')
    (hI : xs.length ≤ 1048576 → ∀ v w lo hi, OwnI w lo hi v xs → hi ≤ w.heap.size → Calls Try.prog 18 #[v] w fun e w' => e = .returned (.tuple #[.string P, .bool B]) ∧ Below w.heap.size w w') :
    Calls Try.prog 7 #[v] w fun e w' => e = .returned (.bool true) ∧ Below w.heap.size w w' := by
  obtain ⟨A1, c1, rfl, -⟩ := id hv
  by_cases hbig : 1048576 < xs.length
  · have hbi : (1048576 : Int) < (xs.length : Int) := by omega
    clear hv hS hI
    go_enter Try.func7, Try.ntmps7
    go_wp2
    go_ret
    exact ⟨rfl, Below.refl _ _⟩
  · have hl : xs.length ≤ 1048576 := by omega
    have HS := Lib.hid (hS hl)
    have HI := Lib.hid (hI hl)
    have HV := Lib.hid hv
    clear hS hI hv
    have hself : (P.toList != P.toList) = false := by simp
    have hself2 : (B != B) = false := by simp
    go_enter Try.func7, Try.ntmps7
    go_wp2_with fail
    refine (toIntS _ xs _ HV.out hl).mono ?_
    rintro e w1 ⟨v1, rfl, ho, hb⟩
    have HA1 := Lib.hid (ArgI.of_own ho (Nat.le_refl _))
    have HV := Lib.hid (HV.out.keep hb)
    have HB := Lib.hid hb
    have z1 := hb.size
    clear ho hb
    go_wp2_with fail
    refine (HS.out _ _ HA1.out).mono ?_
    rintro e w2 ⟨rfl, hb⟩
    have HV := Lib.hid (HV.out.keep hb)
    have HB := Lib.hid (HB.out.trans (hb.mono z1))
    have z2 := hb.size
    clear hb
    go_wp2_with fail
    refine (toIntS _ xs _ HV.out hl).mono ?_
    rintro e w3 ⟨v3, rfl, ho, hb⟩
    have HA3 := Lib.hid (ArgI.of_own ho (Nat.le_refl _))
    have HO3 := Lib.hid ho
    have HV := Lib.hid (HV.out.keep hb)
    have HB := Lib.hid (HB.out.trans (hb.mono (by omega)))
    have z3 := hb.size
    clear ho hb
    go_wp2_with fail
    refine (HI.out _ _ _ _ HO3.out (Nat.le_refl _)).mono ?_
    rintro e w4 ⟨rfl, hb⟩
    have HV := Lib.hid (HV.out.keep hb)
    have HO3 := Lib.hid (HO3.out.keep hb (Nat.le_refl _))
    have HB := Lib.hid (HB.out.trans (hb.mono (by omega)))
    have z4 := hb.size
    clear hb
    go_wp2_with fail
    refine (toIntS _ xs _ HV.out hl).mono ?_
    rintro e w5 ⟨v5, rfl, ho, hb⟩
    have HO5 := Lib.hid ho
    have HO3 := Lib.hid (HO3.out.keep hb z4)
    have HB := Lib.hid (HB.out.trans (hb.mono (by omega)))
    have z5 := hb.size
    clear ho hb
    go_wp2_with fail
    refine (eqI_same _ _ _ _ _ _ xs _ HO3.out HO5.out (by omega)).mono ?_
    rintro e w6 ⟨rfl, hb⟩
    have HB := Lib.hid (HB.out.trans (hb.mono (by omega)))
    go_wp2
    go_ret
    exact ⟨rfl, HB.out⟩

end Go.Proofs.Ytckpojjjodgonaa
