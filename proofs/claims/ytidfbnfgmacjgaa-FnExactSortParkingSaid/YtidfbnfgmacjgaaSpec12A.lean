/- The contracts of the model's l12Cars, PlacesOf, IsParking, DisplacementOf, LuckyOf, PathOfParking. -/
import Derived.Test.YtidfbnfgmacjgaaFact12
import Derived.BigQuiet
namespace Go.Proofs.Ytidfbnfgmacjgaa
open Go.ChangeShapes Go.WideShapes Go.ChangeAt Go.RowKit
set_option linter.unusedVariables false

set_option maxRecDepth 100000 in
set_option maxHeartbeats 1600000 in
theorem l12Cars (v : Value) (xs : List Int) (lo hi : Nat) (w : World) (hv : OwnI w lo hi v xs) (hl : xs.length ≤ 1099511627776) :
    Calls Try.prog 28 #[v] w fun e w' => e = .returned (.bool (carsB xs)) ∧ w = w' := by
  obtain ⟨A1, c1, rfl, k1⟩ := id hv
  clear k1
  have HV := Lib.hid hv
  clear hv
  go_enter Try.func28, Try.ntmps28
  go_wp2
  go_loop [3] (fun x => ∃ j : Nat, j ≤ xs.length ∧ x = .int .i64 j ∧ ∀ q, q < j → wOk xs q) (fun x => xs.length - (intOf x).toNat)
  case atStart => exact ⟨0, Nat.zero_le _, rfl, fun q h => by omega⟩
  case round =>
    obtain ⟨j, hj, rfl, hok⟩ := hrel
    have HOK := Lib.hid hok
    clear hok
    by_cases hlt : j < xs.length
    · obtain ⟨g1, p1, e1, -, -, hc1, -⟩ := HV.out.cell hlt
      simp only [Value.slice.injEq] at e1
      obtain ⟨rfl, -, rfl⟩ := e1
      have hji : (j : Int) < (xs.length : Int) := by omega
      have HNO := Lib.hid (fun h : ¬ wOk xs j => cars_no hlt h)
      generalize hy : xs.getD j 0 = y at hc1
      have HY := Lib.hid hy
      clear hy
      by_cases y0 : y < 1
      · go_wp2_with fail
        (with_reducible refine (l1In_no1 _ _ _ _ y0).mono ?_)
        rintro e w' ⟨rfl, rfl⟩
        go_wp2
        go_ret
        exact ⟨ret_bool (HNO.out fun h => by have := h.1; rw [HY.out] at this; omega).symm, rfl⟩
      · by_cases y1 : (xs.length : Int) < y
        · go_wp2_with fail
          (with_reducible refine (l1In_no2 _ _ _ _ (by omega) y1).mono ?_)
          rintro e w' ⟨rfl, rfl⟩
          go_wp2
          go_ret
          exact ⟨ret_bool (HNO.out fun h => by have := h.2; rw [HY.out] at this; omega).symm, rfl⟩
        · go_wp2_with fail
          (with_reducible refine (l1In_yes _ _ _ _ (by omega) (by omega)).mono ?_)
          rintro e w' ⟨rfl, rfl⟩
          go_wp2
          refine ⟨⟨j + 1, by omega, by simp, fun q hq => ?_⟩, by simp [intOf]; omega⟩
          by_cases e : q < j
          · exact HOK.out q e
          · obtain rfl : q = j := by omega
            exact ⟨by rw [HY.out]; omega, by rw [HY.out]; omega⟩
    · obtain rfl : j = xs.length := by omega
      go_wp2
      go_ret
      refine ⟨ret_bool ?_, rfl⟩
      unfold carsB
      rw [decide_eq_decide]
      exact ⟨fun h => ⟨by omega, HOK.out⟩, fun h => by have := h.1; omega⟩

end Go.Proofs.Ytidfbnfgmacjgaa
