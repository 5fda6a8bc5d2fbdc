/- The contracts of the model's Contains231 and Contains321. -/
import Derived.Test.YtgeppabpkbepdaaSpec10A
import Derived.BigQuiet
namespace Go.Proofs.Ytgeppabpkbepdaa
open Go.ChangeShapes Go.WideShapes Go.ChangeAt Go.RowKit
set_option linter.unusedVariables false

set_option maxRecDepth 100000 in
set_option maxHeartbeats 3200000 in
theorem contains231 (v : Value) (xs : List Int) (lo hi : Nat) (w : World) (hv : OwnI w lo hi v xs) (hl : xs.length ≤ 1099511627776) :
    Calls Try.prog 46 #[v] w fun e w' => e = .returned (.bool (conB r231 xs)) ∧ Below w.heap.size w w' := by
  obtain ⟨A1, c1, rfl, k1⟩ := id hv
  clear k1
  have HV := Lib.hid hv
  clear hv
  have HM := Lib.hid (fun w (h : OwnI w lo hi (.slice A1 xs.length c1) xs) => isPermutation _ xs lo hi w h hl)
  have HD : ∀ q, OwnI (w.drewN q) lo hi (.slice A1 xs.length c1) xs := fun q => HV.out
  have HDD := Lib.hid HD
  clear HD
  rcases hm : permB xs with _ | _
  · have HP := Lib.hid (show conB r231 xs = false by unfold conB; rw [hm]; rfl)
    rw [hm] at HM
    clear hm
    go_enter Try.func46, Try.ntmps46
    go_wp2
    refine wp_loop_rounds 1 ?_
    rw [rounds_succ]
    by_cases h0 : xs.length = 0
    · have h0' : ¬ (0 : Int) < (xs.length : Int) := by omega
      have HZ := Lib.hid h0
      clear h0
      go_wp2
      go_ret
      exact ⟨ret_bool HP.out.symm, Below.refl _ _⟩
    · have h0' : (0 : Int) < (xs.length : Int) := by omega
      have HZ := Lib.hid h0
      clear h0
      go_wp2_with fail
      (with_reducible refine (HM.out _ HV.out).mono ?_)
      rintro e w' ⟨rfl, q0, rfl⟩
      go_wp2
      go_ret
      exact ⟨ret_bool HP.out.symm, below_drewN (Below.refl _ _) _⟩
  · have HP := Lib.hid (show conB r231 xs = hasT r231 xs by unfold conB; rw [hm]; rfl)
    rw [hm] at HM
    have h16 := (perm_yes hm).1
    clear hm
    go_enter Try.func46, Try.ntmps46
    go_wp2
    go_loopw [3] (fun y wr => ∃ (a q : Nat), a ≤ xs.length ∧ y = .int .i64 a ∧ wr = w.drewN q ∧ ∀ a' b c, a' < a → a' < b → b < c → c < xs.length → r231 (xs.getD a' 0) (xs.getD b 0) (xs.getD c 0) = false) (fun y _ => xs.length - (intOf y).toNat)
    case atStart => exact ⟨0, 0, Nat.zero_le _, rfl, rfl, fun a b c h => absurd h (Nat.not_lt_zero _)⟩
    case round =>
      obtain ⟨a, q, ha, rfl, rfl, hno⟩ := hrel
      have HNO := Lib.hid hno
      clear hno
      by_cases hlt : a < xs.length
      · obtain ⟨g1, p1, e1, -, -, hc1, -⟩ := HV.out.cell hlt
        simp only [Value.slice.injEq] at e1
        obtain ⟨rfl, -, rfl⟩ := e1
        have hai : (a : Int) < (xs.length : Int) := by omega
        have HAX := Lib.hid (fun b c => show r231 (xs.getD a 0) (xs.getD b 0) (xs.getD c 0) = _ from rfl)
        go_wp2_with fail
        (with_reducible refine (HM.out _ (HDD.out q)).mono ?_)
        rintro e w' ⟨rfl, q0, rfl⟩
        go_wp2
        go_loopw [4] (fun y wr => ∃ (k q : Nat), a + 1 + k ≤ xs.length ∧ y = .int .i64 ((a + 1 + k : Nat) : Int) ∧ wr = w.drewN q ∧ ∀ b c, a < b → b < a + 1 + k → b < c → c < xs.length → r231 (xs.getD a 0) (xs.getD b 0) (xs.getD c 0) = false) (fun y _ => xs.length - (intOf y).toNat)
        case atStart => exact ⟨0, q + q0, by omega, by simp, rfl, fun b c h1 h2 => by omega⟩
        case round =>
          obtain ⟨k, q, hk, rfl, rfl, hno2⟩ := hrel
          have HN2 := Lib.hid hno2
          clear hno2
          have HK := Lib.hid hk
          have hk16 : k ≤ 16 := by omega
          obtain ⟨b, hb⟩ : ∃ b, b = a + 1 + k := ⟨_, rfl⟩
          have hbx : b ≤ xs.length := by omega
          have hb16 : b ≤ 8 := by omega
          rw [← hb]
          have HBB := Lib.hid hb
          rw [← hb] at HN2
          clear hb hk HK
          by_cases hbl : b < xs.length
          · obtain ⟨g2, p2, e2, -, -, hc2, -⟩ := HV.out.cell hbl
            obtain rfl : g1 = g2 := by simpa using (Value.slice.inj e2).1
            have hbi : (b : Int) < (xs.length : Int) := by omega
            go_wp2
            go_loopw [5] (fun y wr => ∃ (m q : Nat), b + 1 + m ≤ xs.length ∧ y = .int .i64 ((b + 1 + m : Nat) : Int) ∧ wr = w.drewN q ∧ ∀ c, b < c → c < b + 1 + m → r231 (xs.getD a 0) (xs.getD b 0) (xs.getD c 0) = false) (fun y _ => xs.length - (intOf y).toNat)
            case atStart => exact ⟨0, q, by omega, by simp, rfl, fun c h1 h2 => by omega⟩
            case round =>
              obtain ⟨m, q, hm1, rfl, rfl, hno3⟩ := hrel
              have HN3 := Lib.hid hno3
              clear hno3
              obtain ⟨c, hc⟩ : ∃ c, c = b + 1 + m := ⟨_, rfl⟩
              have hcx : c ≤ xs.length := by omega
              have hc16 : c ≤ 8 := by omega
              rw [← hc]
              have HCC := Lib.hid hc
              rw [← hc] at HN3
              clear hc hm1
              by_cases hcl : c < xs.length
              · obtain ⟨g3, p3, e3, -, -, hc3, -⟩ := HV.out.cell hcl
                obtain rfl : g1 = g3 := by simpa using (Value.slice.inj e3).1
                have hci : (c : Int) < (xs.length : Int) := by omega
                have HRR := Lib.hid (show r231 (xs.getD a 0) (xs.getD b 0) (xs.getD c 0) = decide (xs.getD c 0 < xs.getD a 0 ∧ xs.getD a 0 < xs.getD b 0) from rfl)
                have HYES := Lib.hid (fun h => hasT_yes (R := r231) (xs := xs) (a := a) (b := b) (c := c) (by have := HBB.out; omega) (by have := HCC.out; omega) hcl h)
                generalize hx : xs.getD a 0 = x at hc1 HRR HYES HN3
                generalize hy : xs.getD b 0 = y at hc2 HRR HYES HN3
                generalize hz : xs.getD c 0 = z at hc3 HRR HYES
                have HZ := Lib.hid hz
                have HX := Lib.hid hx
                have HY := Lib.hid hy
                clear hx hy hz
                by_cases c1 : z < x
                · by_cases c2 : x < y
                  · have HE := Lib.hid (HYES.out (HRR.out.trans (decide_eq_true ⟨c1, c2⟩)))
                    go_wp2
                    go_quiet (fail)
                    go_wp2
                    go_ret
                    exact ⟨ret_bool (by rw [HP.out, HE.out]), below_drewN (below_drewN (Below.refl _ _) _) _⟩
                  · have HE := Lib.hid (HRR.out.trans (decide_eq_false fun h => c2 h.2))
                    go_wp2
                    go_quiet (fail)
                    go_wp2
                    refine ⟨⟨m + 1, q + nq, by have := HCC.out; omega, by have := HCC.out; congr 1; omega, rfl, fun c' h1 h2 => ?_⟩, by have := HCC.out; simp [intOf]; omega⟩
                    by_cases e : c' < c
                    · exact HN3.out c' h1 e
                    · obtain rfl : c' = c := by have := HCC.out; omega
                      rw [HZ.out]; exact HE.out
                · have HE := Lib.hid (HRR.out.trans (decide_eq_false fun h => c1 h.1))
                  have c1d : decide (z < x) = false := decide_eq_false c1
                  go_wp2
                  go_quiet (fail)
                  go_wp2
                  refine ⟨⟨m + 1, q + nq, by have := HCC.out; omega, by have := HCC.out; congr 1; omega, rfl, fun c' h1 h2 => ?_⟩, by have := HCC.out; simp [intOf]; omega⟩
                  by_cases e : c' < c
                  · exact HN3.out c' h1 e
                  · obtain rfl : c' = c := by have := HCC.out; omega
                    rw [HZ.out]; exact HE.out
              · have hcn : ¬ (c : Int) < (xs.length : Int) := by omega
                go_wp2
                refine ⟨⟨k + 1, q, by have := HBB.out; omega, by have := HBB.out; congr 1; omega, rfl, fun b' c' h1 h2 h3 h4 => ?_⟩, by have := HBB.out; simp [intOf]; omega⟩
                by_cases e : b' < b
                · exact HN2.out b' c' h1 e h3 h4
                · obtain rfl : b' = b := by have := HBB.out; omega
                  exact HN3.out c' h3 (by have := HCC.out; omega)
          · have hbn : ¬ (b : Int) < (xs.length : Int) := by omega
            go_wp2
            refine ⟨⟨a + 1, q, by omega, by simp, rfl, fun a' b' c' h1 h2 h3 h4 => ?_⟩, by simp [intOf]; omega⟩
            by_cases e : a' < a
            · exact HNO.out a' b' c' e h2 h3 h4
            · obtain rfl : a' = a := by omega
              exact HN2.out b' c' h2 (by have := HBB.out; omega) h3 h4
      · obtain rfl : a = xs.length := by omega
        have HR := Lib.hid (hasT_no (R := r231) fun a b c h1 h2 h3 => HNO.out a b c (by omega) h1 h2 h3)
        go_wp2
        go_ret
        exact ⟨ret_bool (by rw [HP.out, HR.out]), below_drewN (Below.refl _ _) _⟩

end Go.Proofs.Ytgeppabpkbepdaa
