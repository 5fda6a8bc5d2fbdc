/- The contracts of the model's DepthOf and PartnerOf. -/
import Derived.Test.YtcckpodpgenapaaSpec4A
namespace Go.Proofs.Ytcckpodpgenapaa
open Go.ChangeShapes Go.WideShapes Go.ChangeAt Go.RowKit
open Go.PlainAid (bt bt_nonneg bt_le get_bt)
set_option linter.unusedVariables false

/-- The greatest of n and the numbers. -/
def mxL : Int → List Int → Int
  | n, [] => n
  | n, x :: l => mxL (max n x) l
theorem mxL_nil (n : Int) : mxL n [] = n := rfl
theorem mxL_cons (n x : Int) (l : List Int) : mxL n (x :: l) = mxL (max n x) l := rfl
noncomputable def depthP (s : ByteArray) : Int := if pobOk s = true then mxL 0 (heightsP (pobW s)) else -1

/-- Back from the letters below k, at height h: the place where the height comes to 0; -1 if it never does. -/
def bkL (s : ByteArray) : Nat → Int → Int
  | 0, _ => -1
  | k + 1, h => if (if bt s k = 100 then h + 1 else h - 1) = 0 then k else bkL s k (if bt s k = 100 then h + 1 else h - 1)
theorem bkL_zero (s : ByteArray) (h : Int) : bkL s 0 h = -1 := rfl
theorem bkL_hit (s : ByteArray) (k : Nat) (h : Int) (e : (if bt s k = 100 then h + 1 else h - 1) = 0) : bkL s (k + 1) h = k := by rw [bkL, if_pos e]
theorem bkL_miss (s : ByteArray) (k : Nat) (h : Int) (e : ¬ (if bt s k = 100 then h + 1 else h - 1) = 0) : bkL s (k + 1) h = bkL s k (if bt s k = 100 then h + 1 else h - 1) := by rw [bkL, if_neg e]
/-- Where the walk goes on: forth from u, and back from there if it found nothing; back from d. -/
def fwL (s : ByteArray) (i : Nat) : Int → List UInt8 → Nat → Int
  | h, [], _ => bkL s (i + 1) h
  | h, c :: l, k => if (if c.toNat = 117 then h + 1 else h - 1) = 0 then k else fwL s i (if c.toNat = 117 then h + 1 else h - 1) l (k + 1)
theorem fwL_nil (s : ByteArray) (i : Nat) (h : Int) (k : Nat) : fwL s i h [] k = bkL s (i + 1) h := rfl
theorem fwL_hit (s : ByteArray) (i : Nat) (h : Int) (c : UInt8) (l : List UInt8) (k : Nat) (e : (if c.toNat = 117 then h + 1 else h - 1) = 0) : fwL s i h (c :: l) k = k := by rw [fwL, if_pos e]
theorem fwL_miss (s : ByteArray) (i : Nat) (h : Int) (c : UInt8) (l : List UInt8) (k : Nat) (e : ¬ (if c.toNat = 117 then h + 1 else h - 1) = 0) : fwL s i h (c :: l) k = fwL s i (if c.toNat = 117 then h + 1 else h - 1) l (k + 1) := by rw [fwL, if_neg e]
def partL (s : ByteArray) (i : Nat) : Int := if bt s i = 117 then fwL s i 0 (rest s i) i else bkL s (i + 1) 0

/-- What PartnerOf answers. -/
noncomputable def partnerP (s : ByteArray) (i : Int) : Int := if pobOk s = true ∧ 0 ≤ i ∧ i ≤ (s.size : Int) - 1 then partL (pobW s) i.toNat else -1
end Go.Proofs.Ytcckpodpgenapaa
