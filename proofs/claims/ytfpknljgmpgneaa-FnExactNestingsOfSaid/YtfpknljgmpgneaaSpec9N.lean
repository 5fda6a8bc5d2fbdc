/- The model's NestingsOf. -/
import Derived.Test.YtfpknljgmpgneaaSpec9A
import Derived.BigQuiet
namespace Go.Proofs.Ytfpknljgmpgneaa
open Go.ChangeShapes Go.WideShapes Go.ChangeAt Go.RowKit
set_option linter.unusedVariables false

/-- Pairs of arcs of which one stands in the other. -/
def nsR (xs : List Int) (a b : Nat) : Nat := if (b : Int) < xs.getD b 0 ∧ xs.getD b 0 < xs.getD a 0 then 1 else 0
def nsIn (xs : List Int) (a : Nat) : Nat → Nat
  | 0 => 0
  | k + 1 => nsIn xs a k + nsR xs a (a + 1 + k)
def nsOut (xs : List Int) : Nat → Nat
  | 0 => 0
  | a + 1 => nsOut xs a + nsIn xs a (xs.length - (a + 1))
theorem nsIn_le (xs : List Int) (a : Nat) : ∀ k, nsIn xs a k ≤ k := by
  intro k
  induction k with
  | zero => exact Nat.le_refl _
  | succ k ih => rw [nsIn]; have : nsR xs a (a + 1 + k) ≤ 1 := by unfold nsR; split <;> omega
                 omega
theorem nsOut_le (xs : List Int) : ∀ a, nsOut xs a ≤ a * xs.length := by
  intro a
  induction a with
  | zero => exact Nat.zero_le _
  | succ a ih => rw [nsOut, Nat.succ_mul]; have := nsIn_le xs a (xs.length - (a + 1)); omega
def nestP (xs : List Int) : Int := if matchP xs = true then (nsOut xs xs.length : Int) else -1

set_option maxRecDepth 100000 in
set_option maxHeartbeats 3200000 in
theorem nestingsOf (v : Value) (xs : List Int) (lo hi : Nat) (w : World) (hv : OwnI w lo hi v xs) (hl : xs.length ≤ 1099511627776) :
    Calls Try.prog 25 #[v] w fun e w' => e = .returned (.int .i64 (nestP xs)) ∧ Below w.heap.size w w' := by
  obtain ⟨A1, c1, rfl, k1⟩ := id hv
  clear k1
  have HV := Lib.hid hv
  clear hv
  rcases hm : matchP xs with _ | _
  · have HP := Lib.hid (show nestP xs = -1 from if_neg (by simp [hm]))
    have HM := Lib.hid (fun w (h : OwnI w lo hi (.slice A1 xs.length c1) xs) => isMatching _ xs lo hi w h hl)
    rw [hm] at HM
    clear hm
    go_enter Try.func25, Try.ntmps25
    go_wp2_with fail
    (with_reducible refine (HM.out _ HV.out).mono ?_)
    rintro e w' ⟨rfl, rfl⟩
    go_wp2
    go_ret
    exact ⟨ret_int HP.out.symm, Below.refl _ _⟩
  · have HP := Lib.hid (show nestP xs = (nsOut xs xs.length : Int) from if_pos hm)
    have HM := Lib.hid (fun w (h : OwnI w lo hi (.slice A1 xs.length c1) xs) => isMatching _ xs lo hi w h hl)
    rw [hm] at HM
    have h16 := (match_yes hm).1
    have HLE := Lib.hid (fun a (ha : a ≤ 16) => show nsOut xs a ≤ 256 from Nat.le_trans (nsOut_le xs a) (Nat.mul_le_mul ha h16))
    clear hm
    go_enter Try.func25, Try.ntmps25
    go_wp2_with fail
    (with_reducible refine (HM.out _ HV.out).mono ?_)
    rintro e w' ⟨rfl, rfl⟩
    go_wp2
    go_loopw [3, 4] (fun x y wr => ∃ (a q : Nat), a ≤ xs.length ∧ y = .int .i64 a ∧ x = .int .i64 (nsOut xs a : Nat) ∧ wr = w.drewN q) (fun _ y _ => xs.length - (intOf y).toNat)
    case atStart => exact ⟨0, 0, Nat.zero_le _, rfl, rfl, rfl⟩
    case round =>
      obtain ⟨a, q, ha, rfl, rfl, rfl⟩ := hrel
      have hle := HLE.out a (by omega)
      by_cases hlt : a < xs.length
      · obtain ⟨g1, p1, e1, -, -, hc1, -⟩ := HV.out.cell hlt
        simp only [Value.slice.injEq] at e1
        obtain ⟨rfl, -, rfl⟩ := e1
        have hai : (a : Int) < (xs.length : Int) := by omega
        have HSUC := Lib.hid (show nsOut xs (a + 1) = nsOut xs a + nsIn xs a (xs.length - (a + 1)) from rfl)
        generalize nsOut xs a = na at *
        have HR := Lib.hid (fun b => show nsR xs a b = if (b : Int) < xs.getD b 0 ∧ xs.getD b 0 < xs.getD a 0 then 1 else 0 from rfl)
        generalize hx : xs.getD a 0 = x at hc1 HR
        clear hx
        go_wp2
        go_loopw [3, 5] (fun x y wr => ∃ (k q : Nat), a + 1 + k ≤ xs.length ∧ y = .int .i64 ((a + 1 + k : Nat) : Int) ∧ x = .int .i64 ((na + nsIn xs a k : Nat) : Int) ∧ wr = w.drewN q) (fun _ y _ => xs.length - (intOf y).toNat)
        case atStart => exact ⟨0, q, by omega, by simp, rfl, rfl⟩
        case round =>
          obtain ⟨k, q, hk, rfl, rfl, rfl⟩ := hrel
          have hin := nsIn_le xs a k
          have HIN := Lib.hid (show nsIn xs a (k + 1) = nsIn xs a k + nsR xs a (a + 1 + k) from rfl)
          have HRB := Lib.hid (HR.out (a + 1 + k))
          generalize hnb : nsIn xs a k = nb at *
          have HNB := Lib.hid hnb
          clear hnb
          by_cases hkl : a + 1 + k < xs.length
          · obtain ⟨g2, p2, e2, -, -, hc2, -⟩ := HV.out.cell hkl
            obtain rfl : g1 = g2 := by simpa using (Value.slice.inj e2).1
            generalize xs.getD (a + 1 + k) 0 = y at hc2 HRB
            have hk16 : k ≤ 16 := by omega
            have HK := Lib.hid hk
            generalize hb : a + 1 + k = b at *
            have HBB := Lib.hid hb
            clear hb
            have hbi : (b : Int) < (xs.length : Int) := by omega
            by_cases c1 : (b : Int) < y
            · by_cases c2 : y < x
              · have HE := Lib.hid (HRB.out.trans (if_pos ⟨c1, c2⟩))
                go_wp2
                go_quiet (fail)
                go_wp2
                refine ⟨⟨k + 1, q + nq, by have := HBB.out; omega, by have := HBB.out; congr 1; omega, by rw [HIN.out, HE.out]; congr 1, rfl⟩, by simp [intOf]; omega⟩
              · have HE := Lib.hid (HRB.out.trans (if_neg fun h => c2 h.2))
                go_wp2
                go_quiet (fail)
                go_wp2
                refine ⟨⟨k + 1, q + nq, by have := HBB.out; omega, by have := HBB.out; congr 1; omega, by rw [HIN.out, HE.out]; rfl, rfl⟩, by simp [intOf]; omega⟩
            · have HE := Lib.hid (HRB.out.trans (if_neg fun h => c1 h.1))
              have c1d : decide ((b : Int) < y) = false := decide_eq_false c1
              go_wp2
              go_quiet (fail)
              go_wp2
              refine ⟨⟨k + 1, q + nq, by have := HBB.out; omega, by have := HBB.out; congr 1; omega, by rw [HIN.out, HE.out]; rfl, rfl⟩, by simp [intOf]; omega⟩
          · have hkn : ¬ ((a + 1 + k : Nat) : Int) < (xs.length : Int) := by omega
            have HKE := Lib.hid (show xs.length - (a + 1) = k by omega)
            generalize ((a + 1 + k : Nat) : Int) = bb at *
            go_wp2
            refine ⟨⟨a + 1, q, by omega, by simp, by rw [HSUC.out, HKE.out, HNB.out], rfl⟩, by simp [intOf]; omega⟩
      · obtain rfl : a = xs.length := by omega
        go_wp2
        go_ret
        exact ⟨ret_int HP.out.symm, below_drewN (Below.refl _ _) _⟩

end Go.Proofs.Ytfpknljgmpgneaa
