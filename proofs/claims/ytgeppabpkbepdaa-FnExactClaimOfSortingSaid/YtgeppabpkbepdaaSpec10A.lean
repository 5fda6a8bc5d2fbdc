/- The contracts of the model's IsPermutation, DescentsOf, InversionsOf. -/
import Derived.Test.YtgeppabpkbepdaaFact10
import Derived.BigQuiet
namespace Go.Proofs.Ytgeppabpkbepdaa
open Go.ChangeShapes Go.WideShapes Go.ChangeAt Go.RowKit
set_option linter.unusedVariables false

set_option maxRecDepth 100000 in
set_option maxHeartbeats 1600000 in
theorem isPermutation (v : Value) (xs : List Int) (lo hi : Nat) (w : World) (hv : OwnI w lo hi v xs) (hl : xs.length ≤ 1099511627776) :
    Calls Try.prog 45 #[v] w fun e w' => e = .returned (.bool (permB xs)) ∧ ∃ q, w' = w.drewN q := by
  obtain ⟨A1, c1, rfl, k1⟩ := id hv
  clear k1
  have HV := Lib.hid hv
  clear hv
  go_enter Try.func45, Try.ntmps45
  go_wp2
  go_loopw [3] (fun x wr => ∃ j n : Nat, j ≤ xs.length ∧ x = .int .i64 j ∧ wr = w.drewN n ∧ ∀ q, q < j → pmOk xs q) (fun x _ => xs.length - (intOf x).toNat)
  case atStart => exact ⟨0, 0, Nat.zero_le _, rfl, rfl, fun q h => by omega⟩
  case round =>
    obtain ⟨j, n, hj, rfl, rfl, hok⟩ := hrel
    have HOK := Lib.hid hok
    clear hok
    by_cases hlt : j < xs.length
    · obtain ⟨g1, p1, e1, -, -, hc1, -⟩ := HV.out.cell hlt
      simp only [Value.slice.injEq] at e1
      obtain ⟨rfl, -, rfl⟩ := e1
      have hji : (j : Int) < (xs.length : Int) := by omega
      have HNO := Lib.hid (fun h : ¬ pmOk xs j => perm_no hlt h)
      generalize hy : xs.getD j 0 = y at hc1
      have HY := Lib.hid hy
      clear hy
      by_cases y0 : y < 0
      · go_wp2_with fail
        (with_reducible refine (l1In_no1 _ _ _ _ y0).mono ?_)
        rintro e w' ⟨rfl, rfl⟩
        go_wp2
        go_ret
        exact ⟨ret_bool (HNO.out fun h => by have := h.1; rw [HY.out] at this; omega).symm, n, rfl⟩
      · by_cases y1 : (xs.length : Int) - 1 < y
        · go_wp2_with fail
          (with_reducible refine (l1In_no2 _ _ _ _ (by omega) y1).mono ?_)
          rintro e w' ⟨rfl, rfl⟩
          go_wp2
          go_ret
          exact ⟨ret_bool (HNO.out fun h => by have := h.2.1; rw [HY.out] at this; omega).symm, n, rfl⟩
        · go_wp2_with fail
          (with_reducible refine (l1In_yes _ _ _ _ (by omega) (by omega)).mono ?_)
          rintro e w' ⟨rfl, rfl⟩
          go_wp2
          go_loopw [4] (fun x wr => ∃ k n : Nat, k ≤ j ∧ x = .int .i64 k ∧ wr = w.drewN n ∧ ∀ q, q < k → xs.getD q 0 ≠ y) (fun x _ => j - (intOf x).toNat)
          case atStart => exact ⟨0, n, Nat.zero_le _, rfl, rfl, fun q h => by omega⟩
          case round =>
            obtain ⟨k, n, hk, rfl, rfl, hne⟩ := hrel
            have HNE := Lib.hid hne
            clear hne
            by_cases hkl : k < j
            · obtain ⟨g2, p2, e2, -, -, hc2, -⟩ := HV.out.cell (show k < xs.length by omega)
              obtain rfl : g1 = g2 := by simpa using (Value.slice.inj e2).1
              have hki : (k : Int) < (j : Int) := by omega
              have hkx : (k : Int) < (xs.length : Int) := by omega
              generalize hz : xs.getD k 0 = z at hc2
              have HZ := Lib.hid hz
              clear hz
              by_cases ez : z = y
              · subst ez
                go_wp2
                go_quiet (fail)
                go_wp2
                go_ret
                exact ⟨ret_bool (HNO.out fun h => h.2.2 k hkl (HZ.out.trans HY.out.symm)).symm, n + nq, by simp⟩
              · have ez2 : (z == y) = false := beq_eq_false_iff_ne.2 ez
                have HEZ := Lib.hid ez
                clear ez
                go_wp2
                go_quiet (fail)
                go_wp2
                refine ⟨⟨k + 1, n + nq, by omega, by simp, rfl, fun q hq => ?_⟩, by simp [intOf]; omega⟩
                by_cases e : q < k
                · exact HNE.out q e
                · obtain rfl : q = k := by omega
                  rw [HZ.out]; exact HEZ.out
            · obtain rfl : k = j := by omega
              go_wp2
              refine ⟨⟨k + 1, n, by omega, by simp, rfl, fun q hq => ?_⟩, by simp [intOf]; omega⟩
              by_cases e : q < k
              · exact HOK.out q e
              · obtain rfl : q = k := by omega
                exact ⟨by rw [HY.out]; omega, by rw [HY.out]; omega, fun r hr => by rw [HY.out]; exact HNE.out r hr⟩
    · obtain rfl : j = xs.length := by omega
      go_wp2
      go_ret
      refine ⟨ret_bool ?_, n, rfl⟩
      unfold permB
      rw [decide_eq_decide]
      exact ⟨fun h => ⟨by omega, HOK.out⟩, fun h => by have := h.1; omega⟩

end Go.Proofs.Ytgeppabpkbepdaa
