/- The contracts of the model's IsDyck, SizeOf and l1In. -/
import Derived.Test.YtpggglcjocnjlaaGreatPlain2
import Derived.Test.YtpggglcjocnjlaaGreatRows
import Derived.WalkKit
import Derived.ProofKit
import Derived.OpenShut
import Derived.ShutString
import Derived.IntWalk
import Derived.Deep.DeepMust
import Derived.Deep.QuietTactic
import Derived.BigQuiet
import Derived.OwnWalk
import Derived.Laws.BytesArg
namespace Go.Proofs.YtpggglcjocnjlaaGreat
open Go.ChangeShapes Go.WideShapes Go.ChangeAt Go.RowKit
open Go.PlainAid (bt bt_nonneg bt_le get_bt)
set_option linter.unusedVariables false

theorem ret_bool {a b : Bool} (h : a = b) : Ending.returned (.bool a) = .returned (.bool b) := by rw [h]
theorem ret_int {a b : Int} (h : a = b) : Ending.returned (.int .i64 a) = .returned (.int .i64 b) := by rw [h]
theorem ret_str {a b : ByteArray} (h : a = b) : Ending.returned (.string a) = .returned (.string b) := by rw [h]

theorem l1In_yes (x lo hi : Int) (w : World) (h1 : lo ≤ x) (h2 : x ≤ hi) :
    Calls Tryz.prog 37 #[.int .i64 x, .int .i64 lo, .int .i64 hi] w fun e w' => e = .returned (.bool true) ∧ w = w' := by
  go_enter Tryz.func37, Tryz.ntmps37
  go_wp2
  go_ret
  exact ⟨rfl, rfl⟩
theorem l1In_no1 (x lo hi : Int) (w : World) (h1 : x < lo) :
    Calls Tryz.prog 37 #[.int .i64 x, .int .i64 lo, .int .i64 hi] w fun e w' => e = .returned (.bool false) ∧ w = w' := by
  go_enter Tryz.func37, Tryz.ntmps37
  go_wp2
  go_ret
  exact ⟨rfl, rfl⟩
theorem l1In_no2 (x lo hi : Int) (w : World) (h1 : lo ≤ x) (h2 : hi < x) :
    Calls Tryz.prog 37 #[.int .i64 x, .int .i64 lo, .int .i64 hi] w fun e w' => e = .returned (.bool false) ∧ w = w' := by
  go_enter Tryz.func37, Tryz.ntmps37
  go_wp2
  go_ret
  exact ⟨by simpa using h2, rfl⟩

set_option maxRecDepth 100000 in
set_option maxHeartbeats 800000 in
theorem isDyck (s : ByteArray) (w : World) (hs : s.size ≤ 1099511627776) :
    Calls Tryz.prog 34 #[.string s] w fun e w' => e = .returned (.bool (dyck s)) ∧ w = w' := by
  go_enter Tryz.func34, Tryz.ntmps34
  go_wp2
  go_loop [3, 4] (fun x y => ∃ i h : Nat, i ≤ s.size ∧ h ≤ i ∧ y = .int .i64 i ∧ x = .int .i64 h ∧ dyckFrom 0 s.data.toList = dyckFrom h (rest s i)) (fun _ y => s.size - (intOf y).toNat)
  case atStart => exact ⟨0, 0, Nat.zero_le _, Nat.le_refl _, rfl, rfl, rfl⟩
  case round =>
    obtain ⟨i, h, hi, hh, rfl, rfl, hd⟩ := hrel
    have HD := Lib.hid hd
    clear hd
    by_cases hlt : i < s.size
    · have hbt := get_bt s
      have hb0 := bt_nonneg s i
      have HR := Lib.hid (rest_cons s i hlt)
      have HB := Lib.hid (bt_at s i hlt)
      by_cases e1 : bt s i = 117
      · have b1 : (bt s i == 117) = true := by simp [e1]
        have HE := Lib.hid (show s[i].toNat = 117 by have := HB.out; omega)
        clear e1
        go_wp2
        refine ⟨⟨i + 1, h + 1, by omega, by omega, by simp, by simp, ?_⟩, by simp [intOf]; omega⟩
        rw [HD.out, HR.out, df_up _ _ _ HE.out]
      · have b1 : (bt s i == 117) = false := by simp [e1]
        by_cases e2 : bt s i = 100
        · have b2 : (bt s i == 100) = true := by simp [e2]
          have HE := Lib.hid (show s[i].toNat = 100 by have := HB.out; omega)
          clear e1 e2
          rcases h with _ | h
          · go_wp2
            go_ret
            refine ⟨ret_bool ?_, rfl⟩
            unfold dyck
            rw [HD.out, HR.out, df_below _ _ HE.out]; simp
          · go_wp2
            refine ⟨⟨i + 1, h, by omega, by omega, by simp, by simp, ?_⟩, by simp [intOf]; omega⟩
            rw [HD.out, HR.out, df_down _ _ _ HE.out]
        · have b2 : (bt s i == 100) = false := by simp [e2]
          have HE := Lib.hid (show s[i].toNat ≠ 117 ∧ s[i].toNat ≠ 100 by have := HB.out; omega)
          clear e1 e2
          go_wp2
          go_ret
          refine ⟨ret_bool ?_, rfl⟩
          unfold dyck
          rw [HD.out, HR.out, df_other _ _ _ HE.out.1 HE.out.2]; simp
    · have HE := Lib.hid (rest_end s i (by omega))
      by_cases h0 : h = 0
      · have b0 : ((h : Int) == 0) = true := by simp [h0]
        have HZ := Lib.hid h0
        clear h0
        by_cases h16 : s.size ≤ 16
        · have b16 : decide ((s.size : Int) ≤ 16) = true := by simp; omega
          go_wp2
          go_ret
          refine ⟨ret_bool ?_, rfl⟩
          rw [dyck_short h16, HD.out, HE.out, df_nil, HZ.out]
          simp
        · have b16 : decide ((s.size : Int) ≤ 16) = false := by simp; omega
          go_wp2
          go_ret
          refine ⟨ret_bool ?_, rfl⟩
          rw [dyck_long (by omega)]
      · have b0 : ((h : Int) == 0) = false := by simp [h0]
        have HZ := Lib.hid h0
        clear h0
        go_wp2
        go_ret
        refine ⟨ret_bool ?_, rfl⟩
        unfold dyck
        rw [HD.out, HE.out, df_nil]
        have := HZ.out
        simp [this]
theorem isDyck_yes (s : ByteArray) (w : World) (hs : s.size ≤ 1099511627776) (h : dyck s = true) : Calls Tryz.prog 34 #[.string s] w fun e w' => e = .returned (.bool true) ∧ w = w' := by
  have := isDyck s w hs; rwa [h] at this
theorem isDyck_no (s : ByteArray) (w : World) (hs : s.size ≤ 1099511627776) (h : dyck s = false) : Calls Tryz.prog 34 #[.string s] w fun e w' => e = .returned (.bool false) ∧ w = w' := by
  have := isDyck s w hs; rwa [h] at this

/-- What SizeOf answers. -/
def sizeP (s : ByteArray) : Int := if dyck s = true then ((s.size / 2 : Nat) : Int) else -1
end Go.Proofs.YtpggglcjocnjlaaGreat
