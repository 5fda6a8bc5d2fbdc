/- The program's IsMatching, MatchingOf, TurnMatching. -/
import Derived.Test.YtcckpodpgenapaaSpec9B
import Derived.Test.YtcckpodpgenapaaImpl4Cb
import Derived.Test.YtcckpodpgenapaaImpl4Z
namespace Go.Proofs.Ytcckpodpgenapaa
open Go.ChangeShapes Go.WideShapes Go.ChangeAt Go.RowKit
open Go.PlainAid (bt bt_nonneg bt_le get_bt)
set_option linter.unusedVariables false

theorem match_long {xs : List Int} (h : 16 < xs.length) : matchP xs = false := decide_eq_false fun hh => by have := hh.1; omega

set_option maxRecDepth 100000 in
set_option maxHeartbeats 1600000 in
theorem isMatchingI (v : Value) (xs : List Int) (lo hi : Nat) (w : World) (hv : OwnI w lo hi v xs) (hl : xs.length ≤ 1099511627776) :
    Calls Try.prog 69 #[v] w fun e w' => e = .returned (.bool (matchP xs)) ∧ w = w' := by
  obtain ⟨A1, c1, rfl, k1⟩ := id hv
  clear k1
  have HV := Lib.hid hv
  clear hv
  by_cases h16 : 16 < xs.length
  · have HP := Lib.hid (match_long h16)
    have hi16 : (16 : Int) < (xs.length : Int) := by omega
    go_enter Try.func69, Try.ntmps69
    go_wp2
    go_ret
    exact ⟨ret_bool HP.out.symm, rfl⟩
  · have hi16 : ¬ (16 : Int) < (xs.length : Int) := by omega
    go_enter Try.func69, Try.ntmps69
    go_wp2
    go_loop [10] (fun x => ∃ j : Nat, j ≤ xs.length ∧ x = .int .i64 j ∧ ∀ q, q < j → mtOk xs q) (fun x => xs.length - (intOf x).toNat)
    case atStart => exact ⟨0, Nat.zero_le _, rfl, fun q h => by omega⟩
    case round =>
      obtain ⟨j, hj, rfl, hok⟩ := hrel
      have HOK := Lib.hid hok
      clear hok
      by_cases hlt : j < xs.length
      · obtain ⟨g1, p1, e1, -, -, hc1, -⟩ := HV.out.cell hlt
        simp only [Value.slice.injEq] at e1
        obtain ⟨rfl, -, rfl⟩ := e1
        have hji : (j : Int) < (xs.length : Int) := by omega
        have HNO := Lib.hid (fun h : ¬ mtOk xs j => match_no hlt h)
        generalize hy : xs.getD j 0 = y at hc1
        have HY := Lib.hid hy
        clear hy
        by_cases y0 : y < 0
        · have d0 : decide (y < 0) = true := decide_eq_true y0
          go_wp2
          go_ret
          exact ⟨ret_bool (HNO.out fun h => by have := h.1; rw [HY.out] at this; omega).symm, rfl⟩
        · have d0 : decide (y < 0) = false := decide_eq_false y0
          by_cases y1 : (xs.length : Int) ≤ y
          · have d1 : decide ((xs.length : Int) ≤ y) = true := decide_eq_true y1
            go_wp2
            go_ret
            exact ⟨ret_bool (HNO.out fun h => by have := h.2.1; rw [HY.out] at this; omega).symm, rfl⟩
          · have d1 : decide ((xs.length : Int) ≤ y) = false := decide_eq_false y1
            obtain ⟨k, rfl⟩ : ∃ k : Nat, y = k := ⟨y.toNat, by omega⟩
            have hk : k < xs.length := by omega
            have hki : (k : Int) < (xs.length : Int) := by omega
            obtain ⟨g2, p2, e2, -, -, hc2, -⟩ := HV.out.cell hk
            obtain rfl : g1 = g2 := by simpa using (Value.slice.inj e2).1
            have HZ := Lib.hid (show xs.getD (xs.getD j 0).toNat 0 = xs.getD k 0 by rw [HY.out]; rfl)
            generalize xs.getD k 0 = z at hc2 HZ
            by_cases ek : k = j
            · subst ek
              clear hc2
              have ek2 : ((k : Int) == (k : Int)) = true := by simp
              go_wp2
              go_ret
              exact ⟨ret_bool (HNO.out fun h => h.2.2.1 HY.out).symm, rfl⟩
            · have ek2 : ((k : Int) == (j : Int)) = false := beq_eq_false_iff_ne.2 (by omega)
              by_cases ez : z = (j : Int)
              · subst ez
                have ez2 : ((j : Int) != (j : Int)) = false := by simp
                go_wp2
                refine ⟨⟨j + 1, by omega, by simp, fun q hq => ?_⟩, by simp [intOf]; omega⟩
                by_cases e : q < j
                · exact HOK.out q e
                · obtain rfl : q = j := by omega
                  exact ⟨by rw [HY.out]; omega, by rw [HY.out]; omega, by rw [HY.out]; omega, HZ.out⟩
              · have ez2 : (z != (j : Int)) = true := by simp [ez]
                have HEZ := Lib.hid ez
                clear ez
                go_wp2
                go_ret
                exact ⟨ret_bool (HNO.out fun h => HEZ.out (HZ.out.symm.trans h.2.2.2)).symm, rfl⟩
      · obtain rfl : j = xs.length := by omega
        go_wp2
        go_ret
        refine ⟨ret_bool ?_, rfl⟩
        unfold matchP
        exact (decide_eq_true ⟨by omega, HOK.out⟩).symm

end Go.Proofs.Ytcckpodpgenapaa
