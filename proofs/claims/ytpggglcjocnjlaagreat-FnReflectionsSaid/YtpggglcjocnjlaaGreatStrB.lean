/- Strings by their bytes. -/
import Derived.Test.YtpggglcjocnjlaaGreatSpec2D
namespace Go.Proofs.YtpggglcjocnjlaaGreat
open Go.ChangeShapes Go.WideShapes Go.ChangeAt Go.RowKit
open Go.PlainAid (bt bt_nonneg bt_le get_bt bt_end)
set_option linter.unusedVariables false

theorem str_ext {a b : ByteArray} (h : a.size = b.size) (hb : ∀ k, k < a.size → bt a k = bt b k) : a = b := by
  apply ByteArray.ext
  apply Array.ext h
  intro i h1 h2
  have := hb i h1
  rw [← get_bt a i h1, ← get_bt b i h2] at this
  apply UInt8.toNat_inj.1
  have e1 : a.data[i] = a[i]'h1 := rfl
  have e2 : b.data[i] = b[i]'h2 := rfl
  rw [e1, e2]; omega
theorem bt_at_or (s : ByteArray) (k : Nat) : bt s k = (s.data.toList.map fun c => (c.toNat : Int)).getD k 0 := by
  by_cases h : k < s.size
  · rw [← get_bt s k h, List.getD_eq_getElem?_getD, List.getElem?_eq_getElem (by simpa using h)]
    simp; rfl
  · rw [bt_end s (by omega), List.getD_eq_getElem?_getD, List.getElem?_eq_none (by simpa using h)]
    rfl
theorem bt_app (a b : ByteArray) (q : Nat) : bt (a ++ b) q = if q < a.size then bt a q else bt b (q - a.size) := by
  rw [bt_at_or, ByteArray.data_append, Array.toList_append, List.map_append]
  have hl : (a.data.toList.map fun c => (c.toNat : Int)).length = a.size := by simp
  split
  · rename_i h
    rw [bt_at_or, List.getD_eq_getElem?_getD, List.getElem?_append_left (by omega), List.getD_eq_getElem?_getD]
  · rename_i h
    rw [bt_at_or, List.getD_eq_getElem?_getD, List.getElem?_append_right (by omega), List.getD_eq_getElem?_getD, hl]
theorem bt_ext (s : ByteArray) (a b q : Nat) (hb : b ≤ s.size) (h : a + q < b) : bt (s.extract a b) q = bt s (a + q) := by
  rw [bt_at_or, bt_at_or, ByteArray.data_extract, Array.toList_extract, List.extract_eq_take_drop, List.getD_eq_getElem?_getD, List.getD_eq_getElem?_getD, List.getElem?_map, List.getElem?_map, List.getElem?_take, if_pos (by omega), List.getElem?_drop]
theorem bt_nums (f : Nat → Int) (n q : Nat) (h : q < n) (h0 : 0 ≤ f q) (h1 : f q ≤ 255) : bt (strOfNums ((List.range n).map f)) q = f q := by
  rw [bt_at_or]
  unfold strOfNums
  simp only [List.map_map, List.getD_eq_getElem?_getD, List.getElem?_map, List.getElem?_range h, Option.map_some, Option.getD_some, Function.comp]
  rw [UInt8.toNat_ofNat']
  omega
theorem nums_size (f : Nat → Int) (n : Nat) : (strOfNums ((List.range n).map f)).size = n := by
  unfold strOfNums; rw [str_len]; simp

end Go.Proofs.YtpggglcjocnjlaaGreat
