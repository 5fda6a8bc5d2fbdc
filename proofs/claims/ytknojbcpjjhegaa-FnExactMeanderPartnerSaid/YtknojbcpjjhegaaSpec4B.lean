/- The contracts of the model's DepthOf and PartnerOf. -/
import Derived.Test.YtknojbcpjjhegaaSpec4A
namespace Go.Proofs.Ytknojbcpjjhegaa
open Go.ChangeShapes Go.WideShapes Go.ChangeAt Go.RowKit
open Go.PlainAid (bt bt_nonneg bt_le get_bt)
set_option linter.unusedVariables false

/-- The greatest of n and the numbers. -/
def mxL : Int → List Int → Int
  | n, [] => n
  | n, x :: l => mxL (max n x) l
theorem mxL_nil (n : Int) : mxL n [] = n := rfl
theorem mxL_cons (n x : Int) (l : List Int) : mxL n (x :: l) = mxL (max n x) l := rfl
noncomputable def depthP (s : ByteArray) : Int := if pobOk s = true then mxL 0 (heightsP (pobW s)) else -1

/-- Back from the letters below k, at height h: the place where the height comes to 0; -1 if it never does. -/
def bkL (s : ByteArray) : Nat → Int → Int
  | 0, _ => -1
  | k + 1, h => if (if bt s k = 100 then h + 1 else h - 1) = 0 then k else bkL s k (if bt s k = 100 then h + 1 else h - 1)
theorem bkL_zero (s : ByteArray) (h : Int) : bkL s 0 h = -1 := rfl
theorem bkL_hit (s : ByteArray) (k : Nat) (h : Int) (e : (if bt s k = 100 then h + 1 else h - 1) = 0) : bkL s (k + 1) h = k := by rw [bkL, if_pos e]
theorem bkL_miss (s : ByteArray) (k : Nat) (h : Int) (e : ¬ (if bt s k = 100 then h + 1 else h - 1) = 0) : bkL s (k + 1) h = bkL s k (if bt s k = 100 then h + 1 else h - 1) := by rw [bkL, if_neg e]
/-- Where the walk goes on: forth from u, and back from there if it found nothing; back from d. -/
def fwL (s : ByteArray) (i : Nat) : Int → List UInt8 → Nat → Int
  | h, [], _ => bkL s (i + 1) h
  | h, c :: l, k => if (if c.toNat = 117 then h + 1 else h - 1) = 0 then k else fwL s i (if c.toNat = 117 then h + 1 else h - 1) l (k + 1)
theorem fwL_nil (s : ByteArray) (i : Nat) (h : Int) (k : Nat) : fwL s i h [] k = bkL s (i + 1) h := rfl
theorem fwL_hit (s : ByteArray) (i : Nat) (h : Int) (c : UInt8) (l : List UInt8) (k : Nat) (e : (if c.toNat = 117 then h + 1 else h - 1) = 0) : fwL s i h (c :: l) k = k := by rw [fwL, if_pos e]
theorem fwL_miss (s : ByteArray) (i : Nat) (h : Int) (c : UInt8) (l : List UInt8) (k : Nat) (e : ¬ (if c.toNat = 117 then h + 1 else h - 1) = 0) : fwL s i h (c :: l) k = fwL s i (if c.toNat = 117 then h + 1 else h - 1) l (k + 1) := by rw [fwL, if_neg e]
def partL (s : ByteArray) (i : Nat) : Int := if bt s i = 117 then fwL s i 0 (rest s i) i else bkL s (i + 1) 0

set_option maxRecDepth 100000 in
set_option maxHeartbeats 3200000 in
theorem l4Partner (s : ByteArray) (i : Nat) (w : World) (hs : s.size ≤ 1099511627776) (hi : i < s.size) : Calls Try.prog 56 #[.string s, .int .i64 i] w fun e w' => e = .returned (.int .i64 (partL s i)) ∧ w = w' := by
  have hbt := get_bt s
  have hii : (i : Int) < (s.size : Int) := by omega
  by_cases e0 : bt s i = 117
  · have b0 : (bt s i == 117) = true := by simp [e0]
    have HP := Lib.hid (show partL s i = fwL s i 0 (rest s i) i from if_pos e0)
    clear e0
    go_enter Try.func56, Try.ntmps56
    go_wp2
    go_loop [5, 6] (fun x y => ∃ (k : Nat) (h : Int), k ≤ s.size ∧ -(k : Int) ≤ h ∧ h ≤ k ∧ y = .int .i64 k ∧ x = .int .i64 h ∧ partL s i = fwL s i h (rest s k) k) (fun _ y => s.size - (intOf y).toNat)
    case atStart => exact ⟨i, 0, by omega, by omega, by omega, rfl, rfl, HP.out⟩
    case round =>
      obtain ⟨k, h, hk, h1, h2, rfl, rfl, hc⟩ := hrel
      have HC := Lib.hid hc
      clear hc
      by_cases hlt : k < s.size
      · have hki : (k : Int) < (s.size : Int) := by omega
        have HR := Lib.hid (rest_cons s k hlt)
        have HBB := Lib.hid (bt_at s k hlt)
        by_cases e1 : bt s k = 117
        · have b1 : (bt s k == 117) = true := by simp [e1]
          have HE := Lib.hid (show s[k].toNat = 117 by have := HBB.out; omega)
          clear e1
          by_cases hz : h + 1 = 0
          · have b2 : (h + 1 == 0) = true := by simp [hz]
            have HZ := Lib.hid hz
            clear hz
            go_wp2
            go_ret
            exact ⟨ret_int (by rw [HC.out, HR.out, fwL_hit _ _ _ _ _ _ (by rw [if_pos HE.out]; exact HZ.out)]), rfl⟩
          · have b2 : (h + 1 == 0) = false := by simp [hz]
            have HZ := Lib.hid hz
            clear hz
            go_wp2
            exact ⟨⟨k + 1, h + 1, by omega, by omega, by omega, by simp, rfl, by rw [HC.out, HR.out, fwL_miss _ _ _ _ _ _ (by rw [if_pos HE.out]; exact HZ.out), if_pos HE.out]⟩, by simp [intOf]; omega⟩
        · have b1 : (bt s k == 117) = false := by simp [e1]
          have HE := Lib.hid (show s[k].toNat ≠ 117 by have := HBB.out; omega)
          clear e1
          by_cases hz : h - 1 = 0
          · have b2 : (h - 1 == 0) = true := by simp [hz]
            have HZ := Lib.hid hz
            clear hz
            go_wp2
            go_ret
            exact ⟨ret_int (by rw [HC.out, HR.out, fwL_hit _ _ _ _ _ _ (by rw [if_neg HE.out]; exact HZ.out)]), rfl⟩
          · have b2 : (h - 1 == 0) = false := by simp [hz]
            have HZ := Lib.hid hz
            clear hz
            go_wp2
            exact ⟨⟨k + 1, h - 1, by omega, by omega, by omega, by simp, rfl, by rw [HC.out, HR.out, fwL_miss _ _ _ _ _ _ (by rw [if_neg HE.out]; exact HZ.out), if_neg HE.out]⟩, by simp [intOf]; omega⟩
      · have HE := Lib.hid (rest_end s k (by omega))
        have hki : ¬ (k : Int) < (s.size : Int) := by omega
        go_wp2
        go_loop [5, 7] (fun x y => ∃ (q : Nat) (g : Int), q ≤ s.size ∧ -(2 * s.size + 1 : Int) + q ≤ g ∧ g ≤ 2 * s.size + 1 - q ∧ y = .int .i64 ((q : Int) - 1) ∧ x = .int .i64 g ∧ partL s i = bkL s q g) (fun _ y => (intOf y + 1).toNat)
        case atStart => exact ⟨i + 1, h, by omega, by omega, by omega, by congr 1; omega, rfl, by rw [HC.out, HE.out, fwL_nil]⟩
        case round =>
          obtain ⟨q, g, hq, g1, g2, rfl, rfl, hc⟩ := hrel
          have HC := Lib.hid hc
          clear hc
          rcases q with _ | q
          · go_wp2
            go_ret
            exact ⟨ret_int (by rw [HC.out, bkL_zero]), rfl⟩
          · have hq1 : ((q + 1 : Nat) : Int) - 1 = (q : Int) := by omega
            rw [hq1]
            have hqi : (q : Int) < (s.size : Int) := by omega
            by_cases e1 : bt s q = 100
            · have b1 : (bt s q == 100) = true := by simp [e1]
              have HE := Lib.hid e1
              clear e1
              by_cases hz : g + 1 = 0
              · have b2 : (g + 1 == 0) = true := by simp [hz]
                have HZ := Lib.hid hz
                clear hz
                go_wp2
                go_ret
                exact ⟨ret_int (by rw [HC.out, bkL_hit _ _ _ (by rw [if_pos HE.out]; exact HZ.out)]), rfl⟩
              · have b2 : (g + 1 == 0) = false := by simp [hz]
                have HZ := Lib.hid hz
                clear hz
                go_wp2
                exact ⟨⟨q, g + 1, by omega, by omega, by omega, rfl, rfl, by rw [HC.out, bkL_miss _ _ _ (by rw [if_pos HE.out]; exact HZ.out), if_pos HE.out]⟩, by simp [intOf]⟩
            · have b1 : (bt s q == 100) = false := by simp [e1]
              have HE := Lib.hid e1
              clear e1
              by_cases hz : g - 1 = 0
              · have b2 : (g - 1 == 0) = true := by simp [hz]
                have HZ := Lib.hid hz
                clear hz
                go_wp2
                go_ret
                exact ⟨ret_int (by rw [HC.out, bkL_hit _ _ _ (by rw [if_neg HE.out]; exact HZ.out)]), rfl⟩
              · have b2 : (g - 1 == 0) = false := by simp [hz]
                have HZ := Lib.hid hz
                clear hz
                go_wp2
                exact ⟨⟨q, g - 1, by omega, by omega, by omega, rfl, rfl, by rw [HC.out, bkL_miss _ _ _ (by rw [if_neg HE.out]; exact HZ.out), if_neg HE.out]⟩, by simp [intOf]⟩
  · have b0 : (bt s i == 117) = false := by simp [e0]
    have HP := Lib.hid (show partL s i = bkL s (i + 1) 0 from if_neg e0)
    clear e0
    go_enter Try.func56, Try.ntmps56
    go_wp2
    go_loop [5, 7] (fun x y => ∃ (q : Nat) (g : Int), q ≤ s.size ∧ -(2 * s.size + 1 : Int) + q ≤ g ∧ g ≤ 2 * s.size + 1 - q ∧ y = .int .i64 ((q : Int) - 1) ∧ x = .int .i64 g ∧ partL s i = bkL s q g) (fun _ y => (intOf y + 1).toNat)
    case atStart => exact ⟨i + 1, 0, by omega, by omega, by omega, by congr 1; omega, rfl, HP.out⟩
    case round =>
      obtain ⟨q, g, hq, g1, g2, rfl, rfl, hc⟩ := hrel
      have HC := Lib.hid hc
      clear hc
      rcases q with _ | q
      · go_wp2
        go_ret
        exact ⟨ret_int (by rw [HC.out, bkL_zero]), rfl⟩
      · have hq1 : ((q + 1 : Nat) : Int) - 1 = (q : Int) := by omega
        rw [hq1]
        have hqi : (q : Int) < (s.size : Int) := by omega
        by_cases e1 : bt s q = 100
        · have b1 : (bt s q == 100) = true := by simp [e1]
          have HE := Lib.hid e1
          clear e1
          by_cases hz : g + 1 = 0
          · have b2 : (g + 1 == 0) = true := by simp [hz]
            have HZ := Lib.hid hz
            clear hz
            go_wp2
            go_ret
            exact ⟨ret_int (by rw [HC.out, bkL_hit _ _ _ (by rw [if_pos HE.out]; exact HZ.out)]), rfl⟩
          · have b2 : (g + 1 == 0) = false := by simp [hz]
            have HZ := Lib.hid hz
            clear hz
            go_wp2
            exact ⟨⟨q, g + 1, by omega, by omega, by omega, rfl, rfl, by rw [HC.out, bkL_miss _ _ _ (by rw [if_pos HE.out]; exact HZ.out), if_pos HE.out]⟩, by simp [intOf]⟩
        · have b1 : (bt s q == 100) = false := by simp [e1]
          have HE := Lib.hid e1
          clear e1
          by_cases hz : g - 1 = 0
          · have b2 : (g - 1 == 0) = true := by simp [hz]
            have HZ := Lib.hid hz
            clear hz
            go_wp2
            go_ret
            exact ⟨ret_int (by rw [HC.out, bkL_hit _ _ _ (by rw [if_neg HE.out]; exact HZ.out)]), rfl⟩
          · have b2 : (g - 1 == 0) = false := by simp [hz]
            have HZ := Lib.hid hz
            clear hz
            go_wp2
            exact ⟨⟨q, g - 1, by omega, by omega, by omega, rfl, rfl, by rw [HC.out, bkL_miss _ _ _ (by rw [if_neg HE.out]; exact HZ.out), if_neg HE.out]⟩, by simp [intOf]⟩

/-- What PartnerOf answers. -/
noncomputable def partnerP (s : ByteArray) (i : Int) : Int := if pobOk s = true ∧ 0 ≤ i ∧ i ≤ (s.size : Int) - 1 then partL (pobW s) i.toNat else -1
end Go.Proofs.Ytknojbcpjjhegaa
