/- The contracts of the model's IsPermutation, DescentsOf, InversionsOf. -/
import Derived.Test.YtkhpfeeohjhpiaaFact10
import Derived.BigQuiet
namespace Go.Proofs.Ytkhpfeeohjhpiaa
open Go.ChangeShapes Go.WideShapes Go.ChangeAt Go.RowKit
set_option linter.unusedVariables false

set_option maxRecDepth 100000 in
set_option maxHeartbeats 1600000 in
theorem isPermutation (v : Value) (xs : List Int) (lo hi : Nat) (w : World) (hv : OwnI w lo hi v xs) (hl : xs.length ≤ 1099511627776) :
    Calls Try.prog 33 #[v] w fun e w' => e = .returned (.bool (permB xs)) ∧ ∃ q, w' = w.drewN q := by
  obtain ⟨A1, c1, rfl, k1⟩ := id hv
  clear k1
  have HV := Lib.hid hv
  clear hv
  go_enter Try.func33, Try.ntmps33
  go_wp2
  go_loopw [3] (fun x wr => ∃ j n : Nat, j ≤ xs.length ∧ x = .int .i64 j ∧ wr = w.drewN n ∧ ∀ q, q < j → pmOk xs q) (fun x _ => xs.length - (intOf x).toNat)
  case atStart => exact ⟨0, 0, Nat.zero_le _, rfl, rfl, fun q h => by omega⟩
  case round =>
    obtain ⟨j, n, hj, rfl, rfl, hok⟩ := hrel
    have HOK := Lib.hid hok
    clear hok
    by_cases hlt : j < xs.length
    · obtain ⟨g1, p1, e1, -, -, hc1, -⟩ := HV.out.cell hlt
      simp only [Value.slice.injEq] at e1
      obtain ⟨rfl, -, rfl⟩ := e1
      have hji : (j : Int) < (xs.length : Int) := by omega
      have HNO := Lib.hid (fun h : ¬ pmOk xs j => perm_no hlt h)
      generalize hy : xs.getD j 0 = y at hc1
      have HY := Lib.hid hy
      clear hy
      by_cases y0 : y < 0
      · go_wp2_with fail
        (with_reducible refine (l1In_no1 _ _ _ _ y0).mono ?_)
        rintro e w' ⟨rfl, rfl⟩
        go_wp2
        go_ret
        exact ⟨ret_bool (HNO.out fun h => by have := h.1; rw [HY.out] at this; omega).symm, n, rfl⟩
      · by_cases y1 : (xs.length : Int) - 1 < y
        · go_wp2_with fail
          (with_reducible refine (l1In_no2 _ _ _ _ (by omega) y1).mono ?_)
          rintro e w' ⟨rfl, rfl⟩
          go_wp2
          go_ret
          exact ⟨ret_bool (HNO.out fun h => by have := h.2.1; rw [HY.out] at this; omega).symm, n, rfl⟩
        · go_wp2_with fail
          (with_reducible refine (l1In_yes _ _ _ _ (by omega) (by omega)).mono ?_)
          rintro e w' ⟨rfl, rfl⟩
          go_wp2
          go_loopw [4] (fun x wr => ∃ k n : Nat, k ≤ j ∧ x = .int .i64 k ∧ wr = w.drewN n ∧ ∀ q, q < k → xs.getD q 0 ≠ y) (fun x _ => j - (intOf x).toNat)
          case atStart => exact ⟨0, n, Nat.zero_le _, rfl, rfl, fun q h => by omega⟩
          case round =>
            obtain ⟨k, n, hk, rfl, rfl, hne⟩ := hrel
            have HNE := Lib.hid hne
            clear hne
            by_cases hkl : k < j
            · obtain ⟨g2, p2, e2, -, -, hc2, -⟩ := HV.out.cell (show k < xs.length by omega)
              obtain rfl : g1 = g2 := by simpa using (Value.slice.inj e2).1
              have hki : (k : Int) < (j : Int) := by omega
              have hkx : (k : Int) < (xs.length : Int) := by omega
              generalize hz : xs.getD k 0 = z at hc2
              have HZ := Lib.hid hz
              clear hz
              by_cases ez : z = y
              · subst ez
                go_wp2
                go_quiet (fail)
                go_wp2
                go_ret
                exact ⟨ret_bool (HNO.out fun h => h.2.2 k hkl (HZ.out.trans HY.out.symm)).symm, n + nq, by simp⟩
              · have ez2 : (z == y) = false := beq_eq_false_iff_ne.2 ez
                have HEZ := Lib.hid ez
                clear ez
                go_wp2
                go_quiet (fail)
                go_wp2
                refine ⟨⟨k + 1, n + nq, by omega, by simp, rfl, fun q hq => ?_⟩, by simp [intOf]; omega⟩
                by_cases e : q < k
                · exact HNE.out q e
                · obtain rfl : q = k := by omega
                  rw [HZ.out]; exact HEZ.out
            · obtain rfl : k = j := by omega
              go_wp2
              refine ⟨⟨k + 1, n, by omega, by simp, rfl, fun q hq => ?_⟩, by simp [intOf]; omega⟩
              by_cases e : q < k
              · exact HOK.out q e
              · obtain rfl : q = k := by omega
                exact ⟨by rw [HY.out]; omega, by rw [HY.out]; omega, fun r hr => by rw [HY.out]; exact HNE.out r hr⟩
    · obtain rfl : j = xs.length := by omega
      go_wp2
      go_ret
      refine ⟨ret_bool ?_, n, rfl⟩
      unfold permB
      rw [decide_eq_decide]
      exact ⟨fun h => ⟨by omega, HOK.out⟩, fun h => by have := h.1; omega⟩

set_option maxRecDepth 100000 in
set_option maxHeartbeats 1600000 in
theorem descentsOf (v : Value) (xs : List Int) (lo hi : Nat) (w : World) (hv : OwnI w lo hi v xs) (hl : xs.length ≤ 1099511627776) :
    Calls Try.prog 38 #[v] w fun e w' => e = .returned (.int .i64 (desP xs)) ∧ Below w.heap.size w w' := by
  obtain ⟨A1, c1, rfl, k1⟩ := id hv
  clear k1
  have HV := Lib.hid hv
  clear hv
  rcases hm : permB xs with _ | _
  · have HP := Lib.hid (show desP xs = -1 from if_neg (by simp [hm]))
    have HM := Lib.hid (fun w (h : OwnI w lo hi (.slice A1 xs.length c1) xs) => isPermutation _ xs lo hi w h hl)
    rw [hm] at HM
    clear hm
    go_enter Try.func38, Try.ntmps38
    go_wp2_with fail
    (with_reducible refine (HM.out _ HV.out).mono ?_)
    rintro e w' ⟨rfl, q0, rfl⟩
    go_wp2
    go_ret
    exact ⟨ret_int HP.out.symm, below_drewN (Below.refl _ _) _⟩
  · have HP := Lib.hid (show desP xs = (desN xs (xs.length - 1) : Int) from if_pos hm)
    have HM := Lib.hid (fun w (h : OwnI w lo hi (.slice A1 xs.length c1) xs) => isPermutation _ xs lo hi w h hl)
    rw [hm] at HM
    have h16 := (perm_yes hm).1
    clear hm
    go_enter Try.func38, Try.ntmps38
    go_wp2_with fail
    (with_reducible refine (HM.out _ HV.out).mono ?_)
    rintro e w' ⟨rfl, q0, rfl⟩
    go_wp2
    go_loopw [3, 4] (fun x y wr => ∃ (k q : Nat), (k = 0 ∨ k + 1 ≤ xs.length) ∧ y = .int .i64 ((k + 1 : Nat) : Int) ∧ x = .int .i64 (desN xs k : Nat) ∧ wr = w.drewN q) (fun _ y _ => xs.length - (intOf y).toNat)
    case atStart => exact ⟨0, q0, .inl rfl, rfl, rfl, rfl⟩
    case round =>
      obtain ⟨k, q, hk, rfl, rfl, rfl⟩ := hrel
      have hle := desN_le xs k
      have HSUC := Lib.hid (show desN xs (k + 1) = desN xs k + if xs.getD (k + 1) 0 < xs.getD k 0 then 1 else 0 from rfl)
      by_cases hlt : k + 1 < xs.length
      · obtain ⟨g1, p1, e1, -, -, hc1, -⟩ := HV.out.cell hlt
        simp only [Value.slice.injEq] at e1
        obtain ⟨rfl, -, rfl⟩ := e1
        obtain ⟨g2, p2, e2, -, -, hc2, -⟩ := HV.out.cell (show k < xs.length by omega)
        obtain rfl : g1 = g2 := by simpa using (Value.slice.inj e2).1
        generalize desN xs k = n at *
        generalize xs.getD (k + 1) 0 = y at hc1 HSUC
        generalize xs.getD k 0 = x at hc2 HSUC
        have hkp : ((k + 1 : Nat) : Int) - 1 = (k : Int) := by omega
        have HKL := Lib.hid hlt
        generalize hb : k + 1 = b at *
        have HBB := Lib.hid hb
        clear hb
        have hbi : (b : Int) < (xs.length : Int) := by have := HKL.out; omega
        have hki : (k : Int) < (xs.length : Int) := by have := HBB.out; omega
        have hk16 : k ≤ 16 := by omega
        have hb16 : b ≤ 17 := by have := HBB.out; omega
        by_cases c1 : y < x
        · have HE := Lib.hid (HSUC.out.trans (by rw [if_pos c1]))
          go_wp2
          go_quiet (fail)
          go_wp2
          refine ⟨⟨b, q + nq, .inr (by have := HKL.out; omega), by simp, by rw [HE.out]; simp, rfl⟩, by have := HKL.out; simp [intOf]; omega⟩
        · have HE := Lib.hid (HSUC.out.trans (by rw [if_neg c1]))
          have c1d : decide (y < x) = false := decide_eq_false c1
          go_wp2
          go_quiet (fail)
          go_wp2
          refine ⟨⟨b, q + nq, .inr (by have := HKL.out; omega), by simp, by rw [HE.out]; simp, rfl⟩, by have := HKL.out; simp [intOf]; omega⟩
      · have HKE := Lib.hid (show xs.length - 1 = k by omega)
        have hkn : ¬ ((k + 1 : Nat) : Int) < (xs.length : Int) := by omega
        clear HSUC
        generalize ((k + 1 : Nat) : Int) = bb at *
        go_wp2
        go_ret
        exact ⟨ret_int (by rw [HP.out, HKE.out]), below_drewN (Below.refl _ _) _⟩

set_option maxRecDepth 100000 in
set_option maxHeartbeats 3200000 in
theorem inversionsOf (v : Value) (xs : List Int) (lo hi : Nat) (w : World) (hv : OwnI w lo hi v xs) (hl : xs.length ≤ 1099511627776) :
    Calls Try.prog 36 #[v] w fun e w' => e = .returned (.int .i64 (invP xs)) ∧ Below w.heap.size w w' := by
  obtain ⟨A1, c1, rfl, k1⟩ := id hv
  clear k1
  have HV := Lib.hid hv
  clear hv
  rcases hm : permB xs with _ | _
  · have HP := Lib.hid (show invP xs = -1 from if_neg (by simp [hm]))
    have HM := Lib.hid (fun w (h : OwnI w lo hi (.slice A1 xs.length c1) xs) => isPermutation _ xs lo hi w h hl)
    rw [hm] at HM
    clear hm
    go_enter Try.func36, Try.ntmps36
    go_wp2_with fail
    (with_reducible refine (HM.out _ HV.out).mono ?_)
    rintro e w' ⟨rfl, q0, rfl⟩
    go_wp2
    go_ret
    exact ⟨ret_int HP.out.symm, below_drewN (Below.refl _ _) _⟩
  · have HP := Lib.hid (show invP xs = (sumAA (ivR xs) xs.length xs.length : Int) by rw [sum_swap]; exact if_pos hm)
    have HM := Lib.hid (fun w (h : OwnI w lo hi (.slice A1 xs.length c1) xs) => isPermutation _ xs lo hi w h hl)
    rw [hm] at HM
    have h16 := (perm_yes hm).1
    have HLE := Lib.hid (fun a (ha : a ≤ 8) => show sumAA (ivR xs) xs.length a ≤ 64 from Nat.le_trans (sumAA_le _ (ivR_le xs) _ a) (Nat.mul_le_mul ha h16))
    clear hm
    go_enter Try.func36, Try.ntmps36
    go_wp2_with fail
    (with_reducible refine (HM.out _ HV.out).mono ?_)
    rintro e w' ⟨rfl, q0, rfl⟩
    go_wp2
    go_loopw [3, 4] (fun x y wr => ∃ (a q : Nat), a ≤ xs.length ∧ y = .int .i64 a ∧ x = .int .i64 (sumAA (ivR xs) xs.length a : Nat) ∧ wr = w.drewN q) (fun _ y _ => xs.length - (intOf y).toNat)
    case atStart => exact ⟨0, q0, Nat.zero_le _, rfl, rfl, rfl⟩
    case round =>
      obtain ⟨a, q, ha, rfl, rfl, rfl⟩ := hrel
      have hle := HLE.out a (by omega)
      by_cases hlt : a < xs.length
      · obtain ⟨g1, p1, e1, -, -, hc1, -⟩ := HV.out.cell hlt
        simp only [Value.slice.injEq] at e1
        obtain ⟨rfl, -, rfl⟩ := e1
        have hai : (a : Int) < (xs.length : Int) := by omega
        have HSUC := Lib.hid (show sumAA (ivR xs) xs.length (a + 1) = sumAA (ivR xs) xs.length a + sumA (ivR xs) a (xs.length - (a + 1)) from rfl)
        generalize sumAA (ivR xs) xs.length a = na at *
        have HR := Lib.hid (fun b => show ivR xs a b = if xs.getD b 0 < xs.getD a 0 then 1 else 0 from rfl)
        generalize hx : xs.getD a 0 = x at hc1 HR
        clear hx
        go_wp2
        go_loopw [3, 5] (fun x y wr => ∃ (k q : Nat), a + 1 + k ≤ xs.length ∧ y = .int .i64 ((a + 1 + k : Nat) : Int) ∧ x = .int .i64 ((na + sumA (ivR xs) a k : Nat) : Int) ∧ wr = w.drewN q) (fun _ y _ => xs.length - (intOf y).toNat)
        case atStart => exact ⟨0, q, by omega, by simp, rfl, rfl⟩
        case round =>
          obtain ⟨k, q, hk, rfl, rfl, rfl⟩ := hrel
          have hin := sumA_le _ (ivR_le xs) a k
          have HIN := Lib.hid (show sumA (ivR xs) a (k + 1) = sumA (ivR xs) a k + ivR xs a (a + 1 + k) from rfl)
          have HRB := Lib.hid (HR.out (a + 1 + k))
          generalize hnb : sumA (ivR xs) a k = nb at *
          have HNB := Lib.hid hnb
          clear hnb
          by_cases hkl : a + 1 + k < xs.length
          · obtain ⟨g2, p2, e2, -, -, hc2, -⟩ := HV.out.cell hkl
            obtain rfl : g1 = g2 := by simpa using (Value.slice.inj e2).1
            generalize xs.getD (a + 1 + k) 0 = y at hc2 HRB
            have hk16 : k ≤ 16 := by omega
            have HK := Lib.hid hk
            generalize hb : a + 1 + k = b at *
            have HBB := Lib.hid hb
            clear hb
            have hbi : (b : Int) < (xs.length : Int) := by omega
            by_cases c2 : y < x
            · have HE := Lib.hid (HRB.out.trans (if_pos c2))
              go_wp2
              go_quiet (fail)
              go_wp2
              refine ⟨⟨k + 1, q + nq, by have := HBB.out; omega, by have := HBB.out; congr 1; omega, by rw [HIN.out, HE.out]; congr 1, rfl⟩, by simp [intOf]; omega⟩
            · have HE := Lib.hid (HRB.out.trans (if_neg c2))
              have c1d : decide (y < x) = false := decide_eq_false c2
              go_wp2
              go_quiet (fail)
              go_wp2
              refine ⟨⟨k + 1, q + nq, by have := HBB.out; omega, by have := HBB.out; congr 1; omega, by rw [HIN.out, HE.out]; rfl, rfl⟩, by simp [intOf]; omega⟩
          · have hkn : ¬ ((a + 1 + k : Nat) : Int) < (xs.length : Int) := by omega
            have HKE := Lib.hid (show xs.length - (a + 1) = k by omega)
            generalize ((a + 1 + k : Nat) : Int) = bb at *
            go_wp2
            refine ⟨⟨a + 1, q, by omega, by simp, by rw [HSUC.out, HKE.out, HNB.out], rfl⟩, by simp [intOf]; omega⟩
      · obtain rfl : a = xs.length := by omega
        go_wp2
        go_ret
        exact ⟨ret_int HP.out.symm, below_drewN (Below.refl _ _) _⟩

end Go.Proofs.Ytkhpfeeohjhpiaa
