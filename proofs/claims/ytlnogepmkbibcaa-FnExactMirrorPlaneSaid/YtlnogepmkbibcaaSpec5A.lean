/- The contract of the model's IsPlane. -/
import Derived.Test.YtlnogepmkbibcaaSpec2A
import Derived.Test.YtlnogepmkbibcaaInts
import Derived.Test.YtlnogepmkbibcaaSpec2B
namespace Go.Proofs.Ytlnogepmkbibcaa
open Go.ChangeShapes Go.WideShapes Go.ChangeAt Go.RowKit
set_option linter.unusedVariables false

/-- Is y met on the way up from v. -/
def upHas (xs : List Int) (y : Int) : Nat → Int → Bool
  | 0, _ => false
  | f + 1, v => if v < 0 then false else (v == y) || upHas xs y f (xs.getD v.toNat 0)
theorem upHas_end (xs : List Int) (y : Int) (f : Nat) (v : Int) (h : v < 0) : upHas xs y f v = false := by
  cases f with
  | zero => rfl
  | succ f => rw [upHas, if_pos h]
theorem upHas_step (xs : List Int) (y : Int) (f : Nat) (v : Int) (h : ¬ v < 0) : upHas xs y (f + 1) v = ((v == y) || upHas xs y f (xs.getD v.toNat 0)) := by rw [upHas, if_neg h]
/-- The vertex i hangs where it may. -/
def plOk (xs : List Int) (i : Nat) : Prop := if i = 0 then xs.getD 0 0 = -1 else 0 ≤ xs.getD i 0 ∧ xs.getD i 0 ≤ (i : Int) - 1 ∧ upHas xs (xs.getD i 0) (i + 1) ((i : Int) - 1) = true
instance (xs : List Int) (i : Nat) : Decidable (plOk xs i) := by unfold plOk; infer_instance
def planeB (xs : List Int) : Bool := decide ((1 ≤ xs.length ∧ xs.length ≤ 9) ∧ ∀ i, i < xs.length → plOk xs i)
theorem plane_no {xs : List Int} {i : Nat} (hi : i < xs.length) (h : ¬ plOk xs i) : planeB xs = false := decide_eq_false fun hh => h (hh.2 i hi)
theorem plane_yes {xs : List Int} (h : planeB xs = true) : (1 ≤ xs.length ∧ xs.length ≤ 9) ∧ ∀ i, i < xs.length → plOk xs i := of_decide_eq_true h
theorem plOk_bd {xs : List Int} {i : Nat} (h : plOk xs i) : -1 ≤ xs.getD i 0 ∧ xs.getD i 0 ≤ (i : Int) - 1 := by
  unfold plOk at h
  split at h
  · rename_i e; subst e; omega
  · omega

set_option maxRecDepth 100000 in
set_option maxHeartbeats 3200000 in
theorem isPlane (v : Value) (xs : List Int) (lo hi : Nat) (w : World) (hv : OwnI w lo hi v xs) (hl : xs.length ≤ 1099511627776) :
    Calls Try.prog 10 #[v] w fun e w' => e = .returned (.bool (planeB xs)) ∧ w = w' := by
  obtain ⟨A1, c1, rfl, k1⟩ := id hv
  clear k1
  have HV := Lib.hid hv
  clear hv
  go_enter Try.func10, Try.ntmps10
  go_wp2
  go_loop [3] (fun x => ∃ j : Nat, j ≤ xs.length ∧ x = .int .i64 j ∧ ∀ q, q < j → plOk xs q) (fun x => xs.length - (intOf x).toNat)
  case atStart => exact ⟨0, Nat.zero_le _, rfl, fun q h => by omega⟩
  case round =>
    obtain ⟨j, hj, rfl, hok⟩ := hrel
    have HOK := Lib.hid hok
    clear hok
    by_cases hlt : j < xs.length
    · obtain ⟨g1, p1, e1, -, -, hc1, -⟩ := HV.out.cell hlt
      simp only [Value.slice.injEq] at e1
      obtain ⟨rfl, -, rfl⟩ := e1
      have hji : (j : Int) < (xs.length : Int) := by omega
      have HNO := Lib.hid (fun h : ¬ plOk xs j => plane_no hlt h)
      by_cases j0 : j = 0
      · subst j0
        have HD := Lib.hid (show plOk xs 0 ↔ xs.getD 0 0 = -1 from by unfold plOk; rw [if_pos rfl])
        generalize xs.getD 0 0 = y at hc1 HD
        by_cases ey : y = -1
        · subst ey
          go_wp2
          refine wp_loop_rounds 1 ?_
          rw [rounds_succ]
          go_wp2
          refine ⟨⟨1, by omega, by simp, fun q hq => ?_⟩, by simp [intOf]; omega⟩
          obtain rfl : q = 0 := by omega
          exact HD.out.2 (by first | rfl | trivial)
        · have ey2 : (y != -1) = true := by simp [ey]
          have HEY := Lib.hid ey
          clear ey
          go_wp2
          go_ret
          exact ⟨ret_bool (HNO.out fun h => HEY.out (HD.out.1 h)).symm, rfl⟩
      · have j0b : ((j : Int) == 0) = false := beq_eq_false_iff_ne.2 (by omega)
        have j0c : (0 : Int) < (j : Int) := by omega
        have HD := Lib.hid (show plOk xs j ↔ 0 ≤ xs.getD j 0 ∧ xs.getD j 0 ≤ (j : Int) - 1 ∧ upHas xs (xs.getD j 0) (j + 1) ((j : Int) - 1) = true from by unfold plOk; rw [if_neg j0])
        generalize xs.getD j 0 = y at hc1 HD
        by_cases y0 : y < 0
        · go_wp2_with fail
          (with_reducible refine (l1In_no1 _ _ _ _ y0).mono ?_)
          rintro e w' ⟨rfl, rfl⟩
          go_wp2
          go_ret
          exact ⟨ret_bool (HNO.out fun h => by have := (HD.out.1 h).1; omega).symm, rfl⟩
        · by_cases y1 : (j : Int) - 1 < y
          · go_wp2_with fail
            (with_reducible refine (l1In_no2 _ _ _ _ (by omega) y1).mono ?_)
            rintro e w' ⟨rfl, rfl⟩
            go_wp2
            go_ret
            exact ⟨ret_bool (HNO.out fun h => by have := (HD.out.1 h).2.1; omega).symm, rfl⟩
          · go_wp2_with fail
            (with_reducible refine (l1In_yes _ _ _ _ (by omega) (by omega)).mono ?_)
            rintro e w' ⟨rfl, rfl⟩
            go_wp2
            go_loop [4, 5] (fun b v => ∃ (o : Bool) (z : Int) (f : Nat), b = .bool o ∧ v = .int .i64 z ∧ -1 ≤ z ∧ z ≤ (j : Int) - 1 ∧ z < (f : Int) ∧ (o || upHas xs y f z) = upHas xs y (j + 1) ((j : Int) - 1)) (fun _ v => (intOf v + 1).toNat)
            case atStart => exact ⟨false, (j : Int) - 1, j + 1, rfl, rfl, by omega, by omega, by omega, by rw [Bool.false_or]⟩
            case round =>
              obtain ⟨o, z, f, rfl, rfl, z0, z1, zf, hup⟩ := hrel
              have HUP := Lib.hid hup
              clear hup
              by_cases zn : z < 0
              · have zn2 : ¬ (0 : Int) ≤ z := by omega
                have HUE := Lib.hid (show o = upHas xs y (j + 1) ((j : Int) - 1) by rw [← HUP.out, upHas_end _ _ _ _ zn, Bool.or_false])
                rcases o with _ | _
                · go_wp2
                  go_ret
                  exact ⟨ret_bool (HNO.out fun h => by have := (HD.out.1 h).2.2; rw [← HUE.out] at this; cases this).symm, rfl⟩
                · go_wp2
                  refine ⟨⟨j + 1, by omega, by simp, fun q hq => ?_⟩, by simp [intOf]; omega⟩
                  by_cases e : q < j
                  · exact HOK.out q e
                  · obtain rfl : q = j := by omega
                    exact HD.out.2 ⟨by omega, by omega, HUE.out.symm⟩
              · obtain ⟨k, rfl⟩ : ∃ k : Nat, z = k := ⟨z.toNat, by omega⟩
                obtain ⟨f, rfl⟩ : ∃ f', f = f' + 1 := ⟨f - 1, by omega⟩
                have hkl : k < xs.length := by omega
                have hki : (k : Int) < (xs.length : Int) := by omega
                have hbd := plOk_bd (HOK.out k (by omega))
                obtain ⟨g2, p2, e2, -, -, hc2, -⟩ := HV.out.cell hkl
                obtain rfl : g1 = g2 := by simpa using (Value.slice.inj e2).1
                have HST := Lib.hid (show upHas xs y (f + 1) (k : Int) = (((k : Int) == y) || upHas xs y f (xs.getD k 0)) from upHas_step xs y f k zn)
                generalize xs.getD k 0 = u at hc2 hbd HST
                have hzn : (0 : Int) ≤ (k : Int) := by omega
                rcases o with _ | _
                · generalize hq : ((k : Int) == y) = q at HST
                  go_wp2
                  exact ⟨⟨q, u, f, rfl, rfl, by omega, by omega, by omega, by rw [← HUP.out, HST.out, Bool.false_or]⟩, by simp [intOf]; omega⟩
                · go_wp2
                  exact ⟨⟨true, u, f, rfl, rfl, by omega, by omega, by omega, by rw [← HUP.out, Bool.true_or, Bool.true_or]⟩, by simp [intOf]; omega⟩
    · obtain rfl : j = xs.length := by omega
      have HQ := Lib.hid (show planeB xs = decide (1 ≤ xs.length ∧ xs.length ≤ 9) by
        unfold planeB
        rw [decide_eq_decide]
        exact ⟨fun h => h.1, fun h => ⟨h, HOK.out⟩⟩)
      by_cases l0 : (xs.length : Int) < 1
      · go_wp2_with fail
        (with_reducible refine (l1In_no1 _ _ _ _ l0).mono ?_)
        rintro e w' ⟨rfl, rfl⟩
        go_wp2
        go_ret
        exact ⟨ret_bool (by rw [HQ.out, decide_eq_false (by omega)]), rfl⟩
      · by_cases l1 : (9 : Int) < (xs.length : Int)
        · go_wp2_with fail
          (with_reducible refine (l1In_no2 _ _ _ _ (by omega) l1).mono ?_)
          rintro e w' ⟨rfl, rfl⟩
          go_wp2
          go_ret
          exact ⟨ret_bool (by rw [HQ.out, decide_eq_false (by omega)]), rfl⟩
        · go_wp2_with fail
          (with_reducible refine (l1In_yes _ _ _ _ (by omega) (by omega)).mono ?_)
          rintro e w' ⟨rfl, rfl⟩
          go_wp2
          go_ret
          exact ⟨ret_bool (by rw [HQ.out, decide_eq_true (by omega)]), rfl⟩

end Go.Proofs.Ytlnogepmkbibcaa
