/- The model's MajorOf and TableauOf. -/
import Derived.Test.YtenmhonaijkajaaFact11
import Derived.Test.YtenmhonaijkajaaTblK
import Derived.BigQuiet
namespace Go.Proofs.Ytenmhonaijkajaa
open Go.ChangeShapes Go.WideShapes Go.ChangeAt Go.RowKit
open Go.PlainAid (bt bt_nonneg bt_le get_bt)
set_option linter.unusedVariables false

set_option maxRecDepth 100000 in
set_option maxHeartbeats 1600000 in
theorem majorOf (s : ByteArray) (w : World) (hs : s.size ≤ 1099511627776) : Calls Try.prog 32 #[.string s] w fun e w' => e = .returned (.int .i64 (majP s)) ∧ w = w' := by
  rcases hd : dyck s with _ | _
  · have HP := Lib.hid (show majP s = -1 from if_neg (by simp [hd]))
    have HD := Lib.hid hd
    clear hd
    go_enter Try.func32, Try.ntmps32
    go_wp2_with fail
    (with_reducible refine (isDyck_no s _ hs HD.out).mono ?_)
    rintro e w' ⟨rfl, rfl⟩
    go_wp2
    go_ret
    exact ⟨ret_int HP.out.symm, rfl⟩
  · have HP := Lib.hid (show majP s = (vaN s (s.size - 1) : Int) from if_pos hd)
    have HD := Lib.hid hd
    have h16 := dyck_size hd
    clear hd
    go_enter Try.func32, Try.ntmps32
    go_wp2_with fail
    (with_reducible refine (isDyck_yes s _ hs HD.out).mono ?_)
    rintro e w' ⟨rfl, rfl⟩
    go_wp2
    go_loop [3, 4] (fun x y => ∃ k : Nat, (k = 0 ∨ k + 1 ≤ s.size) ∧ y = .int .i64 ((k + 1 : Nat) : Int) ∧ x = .int .i64 (vaN s k : Nat)) (fun _ y => s.size - (intOf y).toNat)
    case atStart => exact ⟨0, .inl rfl, rfl, rfl⟩
    case round =>
      obtain ⟨k, hk, rfl, rfl⟩ := hrel
      have hle := (vaN_le s k).resolve_right (by omega)
      by_cases hlt : k + 1 < s.size
      · have hbt := get_bt s
        have HSU := Lib.hid (show vaN s (k + 1) = vaN s k + if bt s k = 100 ∧ bt s (k + 1) = 117 then k + 1 else 0 from rfl)
        generalize vaN s k = n at *
        have hkp : ((k + 1 : Nat) : Int) - 1 = (k : Int) := by omega
        have hbd : n ≤ 300 := by omega
        have HKL := Lib.hid hlt
        obtain ⟨b, hb⟩ : ∃ b, b = k + 1 := ⟨_, rfl⟩
        rw [← hb] at hkp HKL HSU
        rw [← hb]
        have HBB := Lib.hid hb
        clear hb hlt hk hle
        have hbi : (b : Int) < (s.size : Int) := by have := HKL.out; omega
        have hki : (k : Int) < (s.size : Int) := by have := HBB.out; have := HKL.out; omega
        have hb16 : b ≤ 17 := by have := HKL.out; omega
        by_cases e1 : bt s k = 100
        · have b1 : (bt s k == 100) = true := by simp [e1]
          by_cases e2 : bt s b = 117
          · have b2 : (bt s b == 117) = true := by simp [e2]
            have HE := Lib.hid (HSU.out.trans (by rw [if_pos ⟨e1, e2⟩]))
            clear e1 e2
            go_wp2
            refine ⟨⟨b, .inr (by have := HKL.out; omega), by simp, by rw [HE.out]; simp⟩, by have := HKL.out; simp [intOf]; omega⟩
          · have b2 : (bt s b == 117) = false := by simp [e2]
            have HE := Lib.hid (HSU.out.trans (by rw [if_neg (fun h => e2 h.2)]))
            clear e1 e2
            go_wp2
            refine ⟨⟨b, .inr (by have := HKL.out; omega), by simp, by rw [HE.out]; simp⟩, by have := HKL.out; simp [intOf]; omega⟩
        · have b1 : (bt s k == 100) = false := by simp [e1]
          have HE := Lib.hid (HSU.out.trans (by rw [if_neg (fun h => e1 h.1)]))
          clear e1
          go_wp2
          refine ⟨⟨b, .inr (by have := HKL.out; omega), by simp, by rw [HE.out]; simp⟩, by have := HKL.out; simp [intOf]; omega⟩
      · have HKE := Lib.hid (show s.size - 1 = k by omega)
        have hkn : ¬ ((k + 1 : Nat) : Int) < (s.size : Int) := by omega
        generalize ((k + 1 : Nat) : Int) = bb at *
        go_wp2
        go_ret
        exact ⟨ret_int (by rw [HP.out, HKE.out]), rfl⟩

end Go.Proofs.Ytenmhonaijkajaa
