/- The contracts of the model's DepthOf and PartnerOf. -/
import Derived.Test.YtpggglcjocnjlaaGreatSpec4A
namespace Go.Proofs.YtpggglcjocnjlaaGreat
open Go.ChangeShapes Go.WideShapes Go.ChangeAt Go.RowKit
open Go.PlainAid (bt bt_nonneg bt_le get_bt)
set_option linter.unusedVariables false

/-- The greatest of n and the numbers. -/
def mxL : Int → List Int → Int
  | n, [] => n
  | n, x :: l => mxL (max n x) l
theorem mxL_nil (n : Int) : mxL n [] = n := rfl
theorem mxL_cons (n x : Int) (l : List Int) : mxL n (x :: l) = mxL (max n x) l := rfl
noncomputable def depthP (s : ByteArray) : Int := if pobOk s = true then mxL 0 (heightsP (pobW s)) else -1

set_option maxRecDepth 100000 in
set_option maxHeartbeats 1600000 in
theorem depthOf (s : ByteArray) (w : World) (hs : s.size ≤ 1099511627776) : Calls Tryz.prog 47 #[.string s] w fun e w' => e = .returned (.int .i64 (depthP s)) ∧ Below w.heap.size w w' := by
  by_cases hg : pobGood s
  · have HG := Lib.hid (pob_yes hg)
    have hz := pobW_size s
    have HP := Lib.hid (show depthP s = mxL 0 (heightsP (pobW s)) from if_pos HG.out.1)
    have hxl := heightsP_len (pobW s)
    clear hg
    go_enter Tryz.func47, Tryz.ntmps47
    go_wp2_with fail
    refine (pathOfBrackets s _ hs).mono ?_
    rw [HG.out.1, HG.out.2]
    rintro e w' ⟨rfl, rfl⟩
    go_wp2_with fail
    (with_reducible refine (heightsOf (pobW s) _ (by omega)).mono ?_)
    rintro e w1 ⟨v, rfl, ho, hb⟩
    obtain ⟨A1, c1, rfl, k1⟩ := id ho
    clear k1
    have HO := Lib.hid ho
    have HB := Lib.hid hb
    clear ho hb
    generalize heightsP (pobW s) = xs at *
    go_wp2
    go_loop [6, 7] (fun x y => ∃ (i : Nat) (n : Int), i ≤ xs.length ∧ y = .int .i64 i ∧ x = .int .i64 n ∧ mxL n (xs.drop i) = mxL 0 xs) (fun _ y => xs.length - (intOf y).toNat)
    case atStart => exact ⟨0, 0, Nat.zero_le _, rfl, rfl, rfl⟩
    case round =>
      obtain ⟨i, n, hi, rfl, rfl, ha⟩ := hrel
      have HA := Lib.hid ha
      clear ha
      by_cases hlt : i < xs.length
      · have HD := Lib.hid (drop_int xs i hlt)
        obtain ⟨g1, p1, e1, -, -, hc1, -⟩ := HO.out.cell hlt
        simp only [Value.slice.injEq] at e1
        obtain ⟨rfl, -, rfl⟩ := e1
        have hii : (i : Int) < (xs.length : Int) := by omega
        generalize xs.getD i 0 = y at hc1 HD
        go_wp2
        refine ⟨⟨i + 1, max n y, by omega, by simp, by rw [show max n y = if n < y then y else n by split <;> omega], ?_⟩, by simp [intOf]; omega⟩
        rw [← HA.out, HD.out, mxL_cons]
      · obtain rfl : i = xs.length := by omega
        go_wp2
        go_ret
        refine ⟨ret_int ?_, HB.out⟩
        have h := HA.out
        rw [List.drop_length, mxL_nil] at h
        rw [HP.out, h]
  · have HG := Lib.hid (pob_no hg)
    have HP := Lib.hid (show depthP s = -1 from if_neg (by rw [HG.out.1]; simp))
    clear hg
    go_enter Tryz.func47, Tryz.ntmps47
    go_wp2_with fail
    refine (pathOfBrackets s _ hs).mono ?_
    rw [HG.out.1, HG.out.2]
    rintro e w' ⟨rfl, rfl⟩
    go_wp2
    go_ret
    exact ⟨ret_int HP.out.symm, Below.refl _ _⟩

/-- Back from the letters below k, at height h: the place where the height comes to 0; -1 if it never does. -/
def bkL (s : ByteArray) : Nat → Int → Int
  | 0, _ => -1
  | k + 1, h => if (if bt s k = 100 then h + 1 else h - 1) = 0 then k else bkL s k (if bt s k = 100 then h + 1 else h - 1)
theorem bkL_zero (s : ByteArray) (h : Int) : bkL s 0 h = -1 := rfl
theorem bkL_hit (s : ByteArray) (k : Nat) (h : Int) (e : (if bt s k = 100 then h + 1 else h - 1) = 0) : bkL s (k + 1) h = k := by rw [bkL, if_pos e]
theorem bkL_miss (s : ByteArray) (k : Nat) (h : Int) (e : ¬ (if bt s k = 100 then h + 1 else h - 1) = 0) : bkL s (k + 1) h = bkL s k (if bt s k = 100 then h + 1 else h - 1) := by rw [bkL, if_neg e]
/-- Where the walk goes on: forth from u, and back from there if it found nothing; back from d. -/
def fwL (s : ByteArray) (i : Nat) : Int → List UInt8 → Nat → Int
  | h, [], _ => bkL s (i + 1) h
  | h, c :: l, k => if (if c.toNat = 117 then h + 1 else h - 1) = 0 then k else fwL s i (if c.toNat = 117 then h + 1 else h - 1) l (k + 1)
theorem fwL_nil (s : ByteArray) (i : Nat) (h : Int) (k : Nat) : fwL s i h [] k = bkL s (i + 1) h := rfl
theorem fwL_hit (s : ByteArray) (i : Nat) (h : Int) (c : UInt8) (l : List UInt8) (k : Nat) (e : (if c.toNat = 117 then h + 1 else h - 1) = 0) : fwL s i h (c :: l) k = k := by rw [fwL, if_pos e]
theorem fwL_miss (s : ByteArray) (i : Nat) (h : Int) (c : UInt8) (l : List UInt8) (k : Nat) (e : ¬ (if c.toNat = 117 then h + 1 else h - 1) = 0) : fwL s i h (c :: l) k = fwL s i (if c.toNat = 117 then h + 1 else h - 1) l (k + 1) := by rw [fwL, if_neg e]
def partL (s : ByteArray) (i : Nat) : Int := if bt s i = 117 then fwL s i 0 (rest s i) i else bkL s (i + 1) 0

/-- What PartnerOf answers. -/
noncomputable def partnerP (s : ByteArray) (i : Int) : Int := if pobOk s = true ∧ 0 ≤ i ∧ i ≤ (s.size : Int) - 1 then partL (pobW s) i.toNat else -1
end Go.Proofs.YtpggglcjocnjlaaGreat
