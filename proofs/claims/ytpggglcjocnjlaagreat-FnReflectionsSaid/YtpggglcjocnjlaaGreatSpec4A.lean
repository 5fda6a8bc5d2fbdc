/- The contracts of the model's BracketsOf, PathOfBrackets, NestedPairs, ShiftBrackets. -/
import Derived.Test.YtpggglcjocnjlaaGreatSpec2E
import Derived.Test.YtpggglcjocnjlaaGreatSpec2C
namespace Go.Proofs.YtpggglcjocnjlaaGreat
open Go.ChangeShapes Go.WideShapes Go.ChangeAt Go.RowKit
open Go.PlainAid (bt bt_nonneg bt_le get_bt)
set_option linter.unusedVariables false

/-- The parentheses of the first k letters. -/
def brL (s : ByteArray) : Nat → List UInt8
  | 0 => []
  | k + 1 => brL s k ++ [if bt s k = 117 then 40 else 41]
theorem brL_len (s : ByteArray) (k : Nat) : (brL s k).length = k := by
  induction k with
  | zero => rfl
  | succ k ih => rw [brL, List.length_append, ih]; rfl
def bracketsP (s : ByteArray) : ByteArray := if dyck s = true then ⟨(brL s s.size).toArray⟩ else ⟨#[]⟩

set_option maxRecDepth 100000 in
set_option maxHeartbeats 800000 in
theorem bracketsOf (s : ByteArray) (w : World) (hs : s.size ≤ 1099511627776) : Calls Tryz.prog 46 #[.string s] w fun e w' => e = .returned (.tuple #[.string (bracketsP s), .bool (dyck s)]) ∧ w = w' := by
  rcases hd : dyck s with _ | _
  · have HP := Lib.hid (show bracketsP s = ⟨#[]⟩ from if_neg (by simp [hd]))
    have HD := Lib.hid hd
    clear hd
    go_enter Tryz.func46, Tryz.ntmps46
    go_wp2
    refine wp_loop_rounds 1 ?_
    rw [rounds_succ]
    by_cases h0 : s.size = 0
    · have h0' : ¬ (0 : Int) < (s.size : Int) := by omega
      have HZ := Lib.hid h0
      clear h0
      go_wp2_with fail
      (with_reducible refine (isDyck_no s _ hs HD.out).mono ?_)
      rintro e w' ⟨rfl, rfl⟩
      go_wp2
      go_ret2
      exact ⟨ret_sb HP.out.symm rfl, rfl⟩
    · have h0' : (0 : Int) < (s.size : Int) := by omega
      have HZ := Lib.hid h0
      clear h0
      go_wp2_with fail
      (with_reducible refine (isDyck_no s _ hs HD.out).mono ?_)
      rintro e w' ⟨rfl, rfl⟩
      go_wp2_with fail
      (with_reducible refine (isDyck_no s _ hs HD.out).mono ?_)
      rintro e w' ⟨rfl, rfl⟩
      go_wp2
      go_ret2
      exact ⟨ret_sb HP.out.symm rfl, rfl⟩
  · have HP := Lib.hid (show bracketsP s = ⟨(brL s s.size).toArray⟩ from if_pos hd)
    have HD := Lib.hid hd
    have h16 := dyck_size hd
    clear hd
    go_enter Tryz.func46, Tryz.ntmps46
    go_wp2
    go_loop [4, 5] (fun x y => ∃ k : Nat, k ≤ s.size ∧ y = .int .i64 k ∧ x = .string ⟨(brL s k).toArray⟩) (fun _ y => s.size - (intOf y).toNat)
    case atStart => exact ⟨0, Nat.zero_le _, rfl, rfl⟩
    case round =>
      obtain ⟨k, hk, rfl, rfl⟩ := hrel
      have hlen : (⟨(brL s k).toArray⟩ : ByteArray).size = k := by rw [str_len, brL_len]
      by_cases hlt : k < s.size
      · have hbt := get_bt s
        have hki : (k : Int) < (s.size : Int) := by omega
        by_cases e1 : bt s k = 117
        · have b1 : (bt s k == 117) = true := by simp [e1]
          have HB := Lib.hid (show brL s (k + 1) = brL s k ++ [40] by rw [brL, if_pos e1])
          clear e1
          go_wp2_with fail
          (with_reducible refine (isDyck_yes s _ hs HD.out).mono ?_)
          rintro e w' ⟨rfl, rfl⟩
          go_wp2
          refine ⟨⟨k + 1, by omega, by simp, ?_⟩, by simp [intOf]; omega⟩
          rw [HB.out, ← str_snoc]
        · have b1 : (bt s k == 117) = false := by simp [e1]
          have HB := Lib.hid (show brL s (k + 1) = brL s k ++ [41] by rw [brL, if_neg e1])
          clear e1
          go_wp2_with fail
          (with_reducible refine (isDyck_yes s _ hs HD.out).mono ?_)
          rintro e w' ⟨rfl, rfl⟩
          go_wp2
          refine ⟨⟨k + 1, by omega, by simp, ?_⟩, by simp [intOf]; omega⟩
          rw [HB.out, ← str_snoc]
      · have HK := Lib.hid (show k = s.size by omega)
        go_wp2_with fail
        (with_reducible refine (isDyck_yes s _ hs HD.out).mono ?_)
        rintro e w' ⟨rfl, rfl⟩
        go_wp2
        go_ret2
        exact ⟨ret_sb (by rw [HP.out, HK.out]) rfl, rfl⟩

/-- The letters of the first k parentheses. -/
def pbL (s : ByteArray) : Nat → List UInt8
  | 0 => []
  | k + 1 => pbL s k ++ [if bt s k = 40 then 117 else 100]
theorem pbL_len (s : ByteArray) (k : Nat) : (pbL s k).length = k := by
  induction k with
  | zero => rfl
  | succ k ih => rw [pbL, List.length_append, ih]; rfl
def pobW (s : ByteArray) : ByteArray := ⟨(pbL s s.size).toArray⟩
theorem pobW_size (s : ByteArray) : (pobW s).size = s.size := by unfold pobW; rw [str_len, pbL_len]
def pobGood (s : ByteArray) : Prop := s.size ≤ 16 ∧ (∀ j, j < s.size → bt s j = 40 ∨ bt s j = 41) ∧ dyck (pobW s) = true
open Classical in
noncomputable def pobOk (s : ByteArray) : Bool := decide (pobGood s)
noncomputable def pobP (s : ByteArray) : ByteArray := if pobOk s = true then pobW s else ⟨#[]⟩
open Classical in
theorem pob_no {s : ByteArray} (h : ¬ pobGood s) : pobOk s = false ∧ pobP s = ⟨#[]⟩ := by
  have : pobOk s = false := by unfold pobOk; exact decide_eq_false h
  exact ⟨this, by unfold pobP; rw [this]; rfl⟩
open Classical in
theorem pob_yes {s : ByteArray} (h : pobGood s) : pobOk s = true ∧ pobP s = pobW s := by
  have : pobOk s = true := by unfold pobOk; exact decide_eq_true h
  exact ⟨this, by unfold pobP; rw [this]; rfl⟩

set_option maxRecDepth 100000 in
set_option maxHeartbeats 1600000 in
theorem pathOfBrackets (s : ByteArray) (w : World) (hs : s.size ≤ 1099511627776) : Calls Tryz.prog 62 #[.string s] w fun e w' => e = .returned (.tuple #[.string (pobP s), .bool (pobOk s)]) ∧ w = w' := by
  by_cases h16 : s.size ≤ 16
  · have h16' : (s.size : Int) ≤ 16 := by omega
    go_enter Tryz.func62, Tryz.ntmps62
    go_wp2
    go_loop [4, 5] (fun x y => ∃ k : Nat, k ≤ s.size ∧ y = .int .i64 k ∧ x = .string ⟨(pbL s k).toArray⟩ ∧ ∀ j, j < k → bt s j = 40 ∨ bt s j = 41) (fun _ y => s.size - (intOf y).toNat)
    case atStart => exact ⟨0, Nat.zero_le _, rfl, rfl, fun j hj => by omega⟩
    case round =>
      obtain ⟨k, hk, rfl, rfl, hall⟩ := hrel
      have HALL := Lib.hid hall
      clear hall
      have hlen : (⟨(pbL s k).toArray⟩ : ByteArray).size = k := by rw [str_len, pbL_len]
      by_cases hlt : k < s.size
      · have hbt := get_bt s
        have hki : (k : Int) < (s.size : Int) := by omega
        by_cases e1 : bt s k = 40
        · have b1 : (bt s k == 40) = true := by simp [e1]
          have HE := Lib.hid e1
          have HB := Lib.hid (show pbL s (k + 1) = pbL s k ++ [117] by rw [pbL, if_pos e1])
          clear e1
          go_wp2
          refine ⟨⟨k + 1, by omega, by simp, ?_, fun j hj => ?_⟩, by simp [intOf]; omega⟩
          · rw [HB.out, ← str_snoc]
          · by_cases h : j = k
            · rw [h]; exact .inl HE.out
            · exact HALL.out j (by omega)
        · have b1 : (bt s k == 40) = false := by simp [e1]
          by_cases e2 : bt s k = 41
          · have b2 : (bt s k == 41) = true := by simp [e2]
            have HE := Lib.hid e2
            have HB := Lib.hid (show pbL s (k + 1) = pbL s k ++ [100] by rw [pbL, if_neg e1])
            clear e1 e2
            go_wp2
            refine ⟨⟨k + 1, by omega, by simp, ?_, fun j hj => ?_⟩, by simp [intOf]; omega⟩
            · rw [HB.out, ← str_snoc]
            · by_cases h : j = k
              · rw [h]; exact .inr HE.out
              · exact HALL.out j (by omega)
          · have b2 : (bt s k == 41) = false := by simp [e2]
            have HN := Lib.hid (pob_no (s := s) fun h => (h.2.1 k hlt).elim e1 e2)
            clear e1 e2
            go_wp2
            go_ret2
            exact ⟨ret_sb HN.out.2.symm HN.out.1.symm, rfl⟩
      · have HK := Lib.hid (show k = s.size by omega)
        have HW := Lib.hid (show pobW s = ⟨(pbL s k).toArray⟩ by unfold pobW; rw [HK.out])
        have hki : ¬ (k : Int) < (s.size : Int) := by omega
        rcases hd : dyck (pobW s) with _ | _
        · have HN := Lib.hid (pob_no (s := s) fun h => by have := h.2.2; rw [hd] at this; cases this)
          rw [HW.out] at hd
          have HD := Lib.hid hd
          clear hd
          go_wp2_with fail
          (with_reducible refine (isDyck_no _ _ (by omega) HD.out).mono ?_)
          rintro e w' ⟨rfl, rfl⟩
          go_wp2
          go_ret2
          exact ⟨ret_sb HN.out.2.symm HN.out.1.symm, rfl⟩
        · have HN := Lib.hid (pob_yes (s := s) ⟨h16, fun j hj => HALL.out j (by omega), hd⟩)
          rw [HW.out] at hd
          have HD := Lib.hid hd
          clear hd
          go_wp2_with fail
          (with_reducible refine (isDyck_yes _ _ (by omega) HD.out).mono ?_)
          rintro e w' ⟨rfl, rfl⟩
          go_wp2
          go_ret2
          exact ⟨ret_sb (by rw [HN.out.2, HW.out]) HN.out.1.symm, rfl⟩
  · have h16' : ¬ (s.size : Int) ≤ 16 := by omega
    have h16'' : (16 : Int) < (s.size : Int) := by omega
    have h0' : (0 : Int) < (s.size : Int) := by omega
    have HN := Lib.hid (pob_no (s := s) fun h => h16 h.1)
    go_enter Tryz.func62, Tryz.ntmps62
    go_wp2
    refine wp_loop_rounds 1 ?_
    rw [rounds_succ]
    go_wp2
    go_ret2
    exact ⟨ret_sb HN.out.2.symm HN.out.1.symm, rfl⟩

/-- What NestedPairs answers. -/
noncomputable def nestedP (s : ByteArray) : Int := if pobOk s = true then areaP (pobW s) else -1
/-- What ShiftBrackets answers. -/
def shW (s : ByteArray) (k : Nat) : ByteArray := ((s.extract 1 k ++ ⟨#[40]⟩) ++ s.extract (k + 1) s.size) ++ ⟨#[41]⟩
noncomputable def shiftP (s : ByteArray) : ByteArray := if pobOk s = true ∧ 0 < s.size then shW s (cutP (pobW s)).toNat else ⟨#[]⟩
end Go.Proofs.YtpggglcjocnjlaaGreat
