/- LevelSteps, both functions. -/
import Derived.Test.YtcaeedmjmpbgeaaWl25
import Derived.Test.YtcaeedmjmpbgeaaShelfB
namespace Go.Proofs.Ytcaeedmjmpbgeaa
open Go.ChangeShapes Go.WideShapes Go.ChangeAt Go.RowKit
open Go.PlainAid (bt bt_nonneg bt_le get_bt bt_end)
set_option linter.unusedVariables false

theorem cby_yes {c : UInt8} (l : List UInt8) (h : c.toNat = 108) : Lib.countByte (c :: l) 108 = Lib.countByte l 108 + 1 := by
  have : c = 108 := UInt8.toNat_inj.1 h
  subst this
  simp [Lib.countByte]
theorem cby_no {c : UInt8} (l : List UInt8) (h : c.toNat ≠ 108) : Lib.countByte (c :: l) 108 = Lib.countByte l 108 := by
  have : c ≠ 108 := fun e => h (by rw [e]; rfl)
  simp [Lib.countByte, this]
theorem cby_le : ∀ l : List UInt8, Lib.countByte l 108 ≤ l.length
  | [] => by simp [Lib.countByte]
  | c :: l => by
    have := cby_le l
    by_cases h : c.toNat = 108
    · rw [cby_yes l h, List.length_cons]; omega
    · rw [cby_no l h, List.length_cons]; omega
def lvP (s : ByteArray) : Int := if alB (wl 1) 12 s = true then (Lib.countByte s.data.toList 108 : Int) else -1

set_option maxRecDepth 100000 in
theorem levelStepsI (s : ByteArray) (w : World) (hs : s.size ≤ 1048577) : Calls Try.prog 23 #[.string s] w fun e w' => e = .returned (.int .i64 (lvP s)) ∧ Below w.heap.size w w' := by
  have HM := Lib.hid (isMotzkinI s w hs)
  rcases hb : alB (wl 1) 12 s with _ | _
  · have HP := Lib.hid (show lvP s = -1 from if_neg (by rw [hb]; simp))
    rw [hb] at HM
    clear hb
    go_enter Try.func23, Try.ntmps23
    go_wp2_with fail
    (with_reducible refine HM.out.mono ?_)
    rintro e w1 ⟨rfl, hb1⟩
    go_wp2
    go_ret
    exact ⟨ret_int HP.out.symm, hb1⟩
  · have HP := Lib.hid (show lvP s = (Lib.countByte s.data.toList 108 : Int) from if_pos hb)
    have HC := Lib.hid (fun W => Try.strings_Count_one s 108 W)
    rw [hb] at HM
    clear hb
    generalize Lib.countByte s.data.toList 108 = c at *
    go_enter Try.func23, Try.ntmps23
    go_wp2_with fail
    (with_reducible refine HM.out.mono ?_)
    rintro e w1 ⟨rfl, hb1⟩
    go_wp2_with fail
    (with_reducible refine (HC.out _).mono ?_)
    rintro e w2 ⟨rfl, rfl⟩
    go_wp2
    go_ret
    exact ⟨ret_int HP.out.symm, hb1⟩

set_option maxRecDepth 100000 in
set_option maxHeartbeats 1600000 in
theorem levelSteps (s : ByteArray) (w : World) (hs : s.size ≤ 1048577) : Calls Try.prog 22 #[.string s] w fun e w' => e = .returned (.int .i64 (lvP s)) ∧ w = w' := by
  have HM := Lib.hid (isMotzkin s w hs)
  rcases hb : alB (wl 1) 12 s with _ | _
  · have HP := Lib.hid (show lvP s = -1 from if_neg (by rw [hb]; simp))
    rw [hb] at HM
    clear hb
    go_enter Try.func22, Try.ntmps22
    go_wp2_with fail
    (with_reducible refine HM.out.mono ?_)
    rintro e w1 ⟨rfl, rfl⟩
    go_wp2
    go_ret
    exact ⟨ret_int HP.out.symm, rfl⟩
  · have HP := Lib.hid (show lvP s = (Lib.countByte s.data.toList 108 : Int) from if_pos hb)
    rw [hb] at HM
    clear hb
    go_enter Try.func22, Try.ntmps22
    go_wp2_with fail
    (with_reducible refine HM.out.mono ?_)
    rintro e w1 ⟨rfl, rfl⟩
    go_wp2
    go_loop [3, 4] (fun x y => ∃ i n : Nat, i ≤ s.size ∧ n ≤ i ∧ y = .int .i64 i ∧ x = .int .i64 n ∧ Lib.countByte s.data.toList 108 = n + Lib.countByte (rest s i) 108) (fun _ y => s.size - (intOf y).toNat)
    case atStart => exact ⟨0, 0, Nat.zero_le _, Nat.le_refl _, rfl, rfl, by rw [rest_zero, Nat.zero_add]⟩
    case round =>
      obtain ⟨i, n, hi, hni, rfl, rfl, hc⟩ := hrel
      have HC := Lib.hid hc
      clear hc
      by_cases hlt : i < s.size
      · have hbt := get_bt s
        have HR := Lib.hid (rest_cons s i hlt)
        have HBB := Lib.hid (bt_at s i hlt)
        by_cases e1 : bt s i = 108
        · have b1 : (bt s i == 108) = true := by simp [e1]
          have HE := Lib.hid (show s[i].toNat = 108 by have := HBB.out; omega)
          clear e1
          go_wp2
          exact ⟨⟨i + 1, n + 1, by omega, by omega, by simp, by simp, by rw [HC.out, HR.out, cby_yes _ HE.out]; omega⟩, by simp [intOf]; omega⟩
        · have b1 : (bt s i == 108) = false := by simp [e1]
          have HE := Lib.hid (show s[i].toNat ≠ 108 by have := HBB.out; omega)
          clear e1
          go_wp2
          exact ⟨⟨i + 1, n, by omega, by omega, by simp, rfl, by rw [HC.out, HR.out, cby_no _ HE.out]⟩, by simp [intOf]; omega⟩
      · have HE := Lib.hid (rest_end s i (by omega))
        have HF := Lib.hid (show lvP s = (n : Int) by rw [HP.out, HC.out, HE.out]; simp [Lib.countByte])
        go_wp2
        go_ret
        exact ⟨ret_int HF.out.symm, rfl⟩

end Go.Proofs.Ytcaeedmjmpbgeaa
