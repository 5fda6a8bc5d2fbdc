/- The contract of the model's IsNoncrossing; crossings and chords. -/
import Derived.Test.YtpkfgjlbkiiciaaSpec8A
namespace Go.Proofs.Ytpkfgjlbkiiciaa
open Go.ChangeShapes Go.WideShapes Go.ChangeAt Go.RowKit
set_option linter.unusedVariables false

/-- Four elements in two blocks by turns. -/
def Fc (xs : List Int) (a b c d : Nat) : Prop := xs.getD a 0 = xs.getD c 0 ∧ xs.getD b 0 = xs.getD d 0 ∧ xs.getD a 0 ≠ xs.getD b 0
def Cr (xs : List Int) : Prop := ∃ a b c d, a < b ∧ b < c ∧ c < d ∧ d < xs.length ∧ Fc xs a b c d
open Classical in
noncomputable def nonB (xs : List Int) : Bool := prtB xs && !decide (Cr xs)
open Classical in
theorem non_no {xs : List Int} (h : Cr xs) : nonB xs = false := by unfold nonB; rw [decide_eq_true h]; simp
open Classical in
theorem non_yes {xs : List Int} (h : ¬ Cr xs) : nonB xs = prtB xs := by unfold nonB; rw [decide_eq_false h]; simp
theorem non_part {xs : List Int} (h : prtB xs = false) : nonB xs = false := by unfold nonB; rw [h]; rfl

set_option maxRecDepth 100000 in
set_option maxHeartbeats 6400000 in
theorem isNoncrossing (v : Value) (xs : List Int) (lo hi : Nat) (w : World) (hv : OwnI w lo hi v xs) (hl : xs.length ≤ 1099511627776) :
    Calls Try.prog 35 #[v] w fun e w' => e = .returned (.bool (nonB xs)) ∧ Below w.heap.size w w' := by
  have HM := Lib.hid (fun d => isPartition v xs lo hi (w.drewN d) hv hl)
  have HM0 := Lib.hid (isPartition v xs lo hi w hv hl)
  obtain ⟨A1, c1, rfl, k1⟩ := id hv
  clear k1
  have HV := Lib.hid hv
  clear hv
  rcases hp : prtB xs with _ | _
  · have HN := Lib.hid (non_part hp)
    rw [hp] at HM0
    have hne : xs.length ≠ 0 := fun h => by
      have : prtB xs = true := decide_eq_true ⟨by omega, fun i hi => by omega⟩
      rw [hp] at this; cases this
    have hii : (0 : Int) < (xs.length : Int) := by omega
    clear hp hne
    go_enter Try.func35, Try.ntmps35
    go_wp2
    refine wp_loop_rounds 1 ?_
    rw [rounds_succ]
    go_wp2_with fail
    (with_reducible refine HM0.out.mono ?_)
    rintro e w' ⟨rfl, rfl⟩
    go_wp2_with fail
    (with_reducible refine HM0.out.mono ?_)
    rintro e w' ⟨rfl, rfl⟩
    go_wp2
    go_ret
    exact ⟨ret_bool HN.out.symm, Below.refl _ _⟩
  · have h8 := (prt_yes hp).1
    have HPB := Lib.hid hp
    rw [hp] at HM
    clear hp
    have HC := Lib.hid (fun (i : Nat) (hi' : i < xs.length) => HV.out.cell hi')
    go_enter Try.func35, Try.ntmps35
    go_wp2
    go_loopw [3] (fun y wr => ∃ a k : Nat, a ≤ xs.length ∧ y = .int .i64 a ∧ wr = w.drewN k ∧ ∀ a' b c d, a' < a → a' < b → b < c → c < d → d < xs.length → ¬ Fc xs a' b c d) (fun y _ => xs.length - (intOf y).toNat)
    case atStart => exact ⟨0, 0, Nat.zero_le _, rfl, rfl, fun a' b c d h => absurd h (Nat.not_lt_zero _)⟩
    case round =>
      obtain ⟨a, k, ha1, rfl, rfl, hinv⟩ := hrel
      have HIA := Lib.hid hinv
      clear hinv
      by_cases hlt : a < xs.length
      · have hai : (a : Int) < (xs.length : Int) := by omega
        have haw : IntKind.i64.wrap ((a : Int) + 1) = (a : Int) + 1 := IntWalk.i64_in _ (by omega)
        obtain ⟨g, p, e', -, -, hca, -⟩ := HC.out a hlt
        simp only [Value.slice.injEq] at e'
        obtain ⟨rfl, -, rfl⟩ := e'
        go_wp2_with fail
        (with_reducible refine (HM.out k).mono ?_)
        rintro e w' ⟨rfl, rfl⟩
        go_wp2
        go_loopw [4] (fun y wr => ∃ b k : Nat, a < b ∧ b ≤ xs.length ∧ y = .int .i64 b ∧ wr = w.drewN k ∧ ∀ b' c d, a < b' → b' < b → b' < c → c < d → d < xs.length → ¬ Fc xs a b' c d) (fun y _ => xs.length - (intOf y).toNat)
        case atStart => exact ⟨a + 1, k, by omega, by omega, by simp, rfl, fun b' c d h1 h2 => by omega⟩
        case round =>
          obtain ⟨b, k2, hab, hb1, rfl, rfl, hinv⟩ := hrel
          have HIB := Lib.hid hinv
          clear hinv
          by_cases hlt2 : b < xs.length
          · have hbi : (b : Int) < (xs.length : Int) := by omega
            have hbw : IntKind.i64.wrap ((b : Int) + 1) = (b : Int) + 1 := IntWalk.i64_in _ (by omega)
            obtain ⟨g', p', e', -, -, hcb, -⟩ := HC.out b hlt2
            simp only [Value.slice.injEq, Option.some.injEq, Addr.mk.injEq] at e'
            obtain ⟨⟨rfl, -⟩, -, -⟩ := e'
            go_wp2
            go_loopw [5] (fun y wr => ∃ c k : Nat, b < c ∧ c ≤ xs.length ∧ y = .int .i64 c ∧ wr = w.drewN k ∧ ∀ c' d, b < c' → c' < c → c' < d → d < xs.length → ¬ Fc xs a b c' d) (fun y _ => xs.length - (intOf y).toNat)
            case atStart => exact ⟨b + 1, k2, by omega, by omega, by simp, rfl, fun c' d h1 h2 => by omega⟩
            case round =>
              obtain ⟨c, k3, hbc, hc1, rfl, rfl, hinv⟩ := hrel
              have HIC := Lib.hid hinv
              clear hinv
              by_cases hlt3 : c < xs.length
              · have hci : (c : Int) < (xs.length : Int) := by omega
                have hcw : IntKind.i64.wrap ((c : Int) + 1) = (c : Int) + 1 := IntWalk.i64_in _ (by omega)
                obtain ⟨g', p', e', -, -, hcc, -⟩ := HC.out c hlt3
                simp only [Value.slice.injEq, Option.some.injEq, Addr.mk.injEq] at e'
                obtain ⟨⟨rfl, -⟩, -, -⟩ := e'
                go_wp2
                go_loopw [6] (fun y wr => ∃ d k : Nat, c < d ∧ d ≤ xs.length ∧ y = .int .i64 d ∧ wr = w.drewN k ∧ ∀ d', c < d' → d' < d → ¬ Fc xs a b c d') (fun y _ => xs.length - (intOf y).toNat)
                case atStart => exact ⟨c + 1, k3, by omega, by omega, by simp, rfl, fun d' h1 h2 => by omega⟩
                case round =>
                  obtain ⟨d, k4, hcd, hd1, rfl, rfl, hinv⟩ := hrel
                  have HID := Lib.hid hinv
                  clear hinv
                  by_cases hlt4 : d < xs.length
                  · have hdi : (d : Int) < (xs.length : Int) := by omega
                    have hdw : IntKind.i64.wrap ((d : Int) + 1) = (d : Int) + 1 := IntWalk.i64_in _ (by omega)
                    obtain ⟨g', p', e', -, -, hcdd, -⟩ := HC.out d hlt4
                    simp only [Value.slice.injEq, Option.some.injEq, Addr.mk.injEq] at e'
                    obtain ⟨⟨rfl, -⟩, -, -⟩ := e'
                    have HF := Lib.hid (show Fc xs a b c d ↔ (xs.getD a 0 = xs.getD c 0 ∧ xs.getD b 0 = xs.getD d 0 ∧ xs.getD a 0 ≠ xs.getD b 0) from Iff.rfl)
                    have HCR := Lib.hid (show Fc xs a b c d → nonB xs = false from fun h => non_no ⟨a, b, c, d, hab, hbc, hcd, hlt4, h⟩)
                    have HNX := Lib.hid (show ¬ Fc xs a b c d → ∀ d', c < d' → d' < d + 1 → ¬ Fc xs a b c d' from fun h d' h1 h2 => by
                      by_cases e : d' < d
                      · exact HID.out d' h1 e
                      · obtain rfl : d' = d := by omega
                        exact h)
                    generalize xs.getD a 0 = ya at *
                    generalize xs.getD b 0 = yb at *
                    generalize xs.getD c 0 = yc at *
                    generalize xs.getD d 0 = yd at *
                    by_cases q1 : ya = yc
                    · by_cases q2 : yb = yd
                      · by_cases q3 : ya = yb
                        · have HX := Lib.hid (HNX.out fun h => (HF.out.1 h).2.2 q3)
                          have b1 : (ya == yc) = true := by simp [q1]
                          have b2 : (yb == yd) = true := by simp [q2]
                          have b3 : (ya != yb) = false := by simp [q3]
                          clear q1 q2 q3 HF HCR HNX
                          go_wp2
                          go_quiet (fail)
                          go_wp2
                          go_roundw
                          case rel => exact ⟨d + 1, _, by omega, by omega, by simp, rfl, HX.out⟩
                          case measure => simp [intOf]; omega
                        · have HX := Lib.hid (HCR.out (HF.out.2 ⟨q1, q2, q3⟩))
                          have b1 : (ya == yc) = true := by simp [q1]
                          have b2 : (yb == yd) = true := by simp [q2]
                          have b3 : (ya != yb) = true := by simp [q3]
                          clear q1 q2 q3 HF HCR HNX
                          go_wp2
                          go_quiet (fail)
                          go_wp2
                          go_ret
                          exact ⟨ret_bool HX.out.symm, below_drewN (below_drewN (Below.refl _ _) _) _⟩
                      · have HX := Lib.hid (HNX.out fun h => q2 (HF.out.1 h).2.1)
                        have b1 : (ya == yc) = true := by simp [q1]
                        have b2 : (yb == yd) = false := by simp [q2]
                        clear q1 q2 HF HCR HNX
                        go_wp2
                        go_quiet (fail)
                        go_wp2
                        go_roundw
                        case rel => exact ⟨d + 1, _, by omega, by omega, by simp, rfl, HX.out⟩
                        case measure => simp [intOf]; omega
                    · have HX := Lib.hid (HNX.out fun h => q1 (HF.out.1 h).1)
                      have b1 : (ya == yc) = false := by simp [q1]
                      clear q1 HF HCR HNX
                      go_wp2
                      go_quiet (fail)
                      go_wp2
                      go_roundw
                      case rel => exact ⟨d + 1, _, by omega, by omega, by simp, rfl, HX.out⟩
                      case measure => simp [intOf]; omega
                  · obtain rfl : d = xs.length := by omega
                    have HX := Lib.hid (show ∀ c' d, b < c' → c' < c + 1 → c' < d → d < xs.length → ¬ Fc xs a b c' d from fun c' d h1 h2 h3 h4 => by
                      by_cases e : c' < c
                      · exact HIC.out c' d h1 e h3 h4
                      · obtain rfl : c' = c := by omega
                        exact HID.out d h3 h4)
                    go_wp2
                    go_roundw
                    case rel => exact ⟨c + 1, _, by omega, by omega, by simp, rfl, HX.out⟩
                    case measure => simp [intOf]; omega
              · obtain rfl : c = xs.length := by omega
                have HX := Lib.hid (show ∀ b' c d, a < b' → b' < b + 1 → b' < c → c < d → d < xs.length → ¬ Fc xs a b' c d from fun b' c d h1 h2 h3 h4 h5 => by
                  by_cases e : b' < b
                  · exact HIB.out b' c d h1 e h3 h4 h5
                  · obtain rfl : b' = b := by omega
                    exact HIC.out c d h3 (by omega) h4 h5)
                go_wp2
                go_roundw
                case rel => exact ⟨b + 1, _, by omega, by omega, by simp, rfl, HX.out⟩
                case measure => simp [intOf]; omega
          · obtain rfl : b = xs.length := by omega
            have HX := Lib.hid (show ∀ a' b c d, a' < a + 1 → a' < b → b < c → c < d → d < xs.length → ¬ Fc xs a' b c d from fun a' b c d h1 h2 h3 h4 h5 => by
              by_cases e : a' < a
              · exact HIA.out a' b c d e h2 h3 h4 h5
              · obtain rfl : a' = a := by omega
                exact HIB.out b c d h2 (by omega) h3 h4 h5)
            go_wp2
            go_roundw
            case rel => exact ⟨a + 1, _, by omega, by simp, rfl, HX.out⟩
            case measure => simp [intOf]; omega
      · obtain rfl : a = xs.length := by omega
        have hai : ¬ ((xs.length : Int) < (xs.length : Int)) := by omega
        have HN := Lib.hid (show nonB xs = true by
          rw [non_yes (fun ⟨a, b, c, d, h1, h2, h3, h4, h5⟩ => HIA.out a b c d (by omega) h1 h2 h3 h4 h5)]
          exact HPB.out)
        go_wp2_with fail
        (with_reducible refine (HM.out k).mono ?_)
        rintro e w' ⟨rfl, rfl⟩
        go_wp2
        go_ret
        exact ⟨ret_bool HN.out.symm, below_drewN (Below.refl _ _) k⟩

end Go.Proofs.Ytpkfgjlbkiiciaa
