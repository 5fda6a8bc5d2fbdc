/- What FnBrackets says of all paths of at most 12 letters, looked at path by path. -/
import Derived.Test.YtdnkddmnijckhaaGreatPlainG
import Derived.Test.YtdnkddmnijckhaaGreatSpec9B
namespace Go.Proofs.YtdnkddmnijckhaaGreat
open Go.ChangeShapes Go.WideShapes Go.ChangeAt Go.RowKit
open Go.PlainAid (bt bt_nonneg bt_le get_bt)
set_option linter.unusedVariables false

/-- One shift, and as many as k. -/
def shOne (x : ByteArray) : ByteArray := shW x (cutP (pobW x)).toNat
def shIt (x : ByteArray) : Nat → ByteArray
  | 0 => x
  | k + 1 => shOne (shIt x k)
/-- Parentheses of a path of at most 8 pairs. -/
def goodB (x : ByteArray) : Bool := decide (0 < x.size ∧ x.size ≤ 16) && (List.range x.size).all (fun j => bt x j == 40 || bt x j == 41) && dyck (pobW x)
/-- The first k shifts are good, and the last one is y. -/
def shAll (y : ByteArray) : Nat → ByteArray → Bool
  | 0, x => x.data.toList == y.data.toList
  | k + 1, x => goodB x && shAll y k (shOne x)
def okShift (l : List UInt8) : Bool :=
  let s : ByteArray := ⟨l.toArray⟩
  shAll (bracketsP s) l.length (bracketsP s)
def okTurn (l : List UInt8) : Bool :=
  let s : ByteArray := ⟨l.toArray⟩
  let ys := turnP (matchingP s) 1
  l.isEmpty || (turnOk (matchingP s) 1 && crossP ys == 0 && decide ((pomP ys).size ≤ 16) && dyck (pomP ys) && (bracketsP (pomP ys)).data.toList == (shOne (bracketsP s)).data.toList)
def okPart (l : List UInt8) : Bool :=
  let s : ByteArray := ⟨l.toArray⟩
  (List.range l.length).all fun i => decide (0 ≤ partL s i ∧ partL s i < l.length ∧ partL s i ≠ i ∧ partL s (partL s i).toNat = i)

theorem part0 : (List.range 13).all (fun n => (enumP 0 n).all okPart) = true := by decide +kernel
theorem turn0 : (List.range 11).all (fun n => (enumP 0 n).all okTurn) = true := by decide +kernel
theorem shift0 : (List.range 9).all (fun n => (enumP 0 n).all okShift) = true := by decide +kernel
theorem turn12 : (enumP 0 12).all okTurn = true := by decide +kernel
theorem shift10 : (enumP 0 10).all okShift = true := by decide +kernel
theorem shift12a : ((enumP 0 12).take 44).all okShift = true := by decide +kernel
theorem shift12b : (((enumP 0 12).drop 44).take 44).all okShift = true := by decide +kernel
theorem shift12c : ((enumP 0 12).drop 88).all okShift = true := by decide +kernel

end Go.Proofs.YtdnkddmnijckhaaGreat
