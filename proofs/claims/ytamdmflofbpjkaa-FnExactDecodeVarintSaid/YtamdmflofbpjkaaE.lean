/- The contract of the program's DecodeHex (see YtamdmflofbpjkaaD), and of the value of a digit that is read as a rune. -/
import Derived.Test.YtamdmflofbpjkaaD
namespace Go.Proofs.Ytamdmflofbpjkaa
open Go.ChangeShapes Go.WideShapes Go.ChangeAt Go.RowKit
open Go.PlainAid (bt bt_nonneg bt_le get_bt)
set_option linter.unusedVariables false

theorem ret_hx {a b : Int} {x y : Bool} (h : a = b) (h' : x = y) : Ending.returned (.tuple #[.int .u8 a, .bool x]) = .returned (.tuple #[.int .u8 b, .bool y]) := by rw [h, h']
theorem hexV_yes (r : Int) (w : World) (h : 0 ≤ hv r) : Calls Try.prog 25 #[.int .i32 r] w fun e w' => e = .returned (.tuple #[.int .u8 (hv r), .bool true]) ∧ w = w' := by
  have H := Lib.hid h
  rcases (show (48 ≤ r ∧ r ≤ 57) ∨ (97 ≤ r ∧ r ≤ 102) by unfold hv at h; split at h <;> (try split at h) <;> omega) with ⟨h1, h2⟩ | ⟨h1, h2⟩
  · have hx : hv r = r - 48 := by unfold hv; rw [if_pos ⟨h1, h2⟩]
    have HX := Lib.hid hx
    clear hx h
    go_enter Try.func25, Try.ntmps25
    go_wp2
    go_ret2
    exact ⟨ret_hx HX.out.symm rfl, rfl⟩
  · have hx : hv r = r - 87 := by unfold hv; rw [if_neg (by omega), if_pos ⟨h1, h2⟩]
    have HX := Lib.hid hx
    clear hx h
    have h48 : 48 ≤ r := by omega
    have hd1 : decide (r ≤ 57) = false := by simp; omega
    go_enter Try.func25, Try.ntmps25
    go_wp2
    go_ret2
    exact ⟨ret_hx (by rw [HX.out]; omega) rfl, rfl⟩
theorem hexV_no (r : Int) (w : World) (h : hv r < 0) : Calls Try.prog 25 #[.int .i32 r] w fun e w' => e = .returned (.tuple #[.int .u8 0, .bool false]) ∧ w = w' := by
  rcases (show r < 48 ∨ (58 ≤ r ∧ r < 97) ∨ 102 < r by unfold hv at h; split at h <;> (try split at h) <;> omega) with h1 | ⟨h1, h2⟩ | h1
  · clear h
    go_enter Try.func25, Try.ntmps25
    go_wp2
    go_ret2
    exact ⟨rfl, rfl⟩
  · clear h
    have h48 : 48 ≤ r := by omega
    have hd1 : decide (r ≤ 57) = false := by simp; omega
    go_enter Try.func25, Try.ntmps25
    go_wp2
    go_ret2
    exact ⟨rfl, rfl⟩
  · clear h
    have h48 : 48 ≤ r := by omega
    have h97 : 97 ≤ r := by omega
    have hd1 : decide (r ≤ 57) = false := by simp; omega
    have hd2 : decide (r ≤ 102) = false := by simp; omega
    go_enter Try.func25, Try.ntmps25
    go_wp2
    go_ret2
    exact ⟨rfl, rfl⟩

/-- Byte j of the row behind k digits. -/
def part (s : ByteArray) (k j : Nat) : Int := if 2 * j + 1 < k then 16 * hv (bt s (2 * j)) + hv (bt s (2 * j + 1)) else if 2 * j < k then hv (bt s (2 * j)) else 0
theorem part_zero (s : ByteArray) (j : Nat) : part s 0 j = 0 := by unfold part; rw [if_neg (by omega), if_neg (by omega)]
theorem part_far (s : ByteArray) (k j : Nat) (h : j ≠ k / 2) : part s (k + 1) j = part s k j := by
  unfold part
  by_cases h1 : 2 * j + 1 < k
  · rw [if_pos h1, if_pos (by omega)]
  · rw [if_neg h1, if_neg (by omega)]
    by_cases h2 : 2 * j < k
    · omega
    · rw [if_neg h2, if_neg (by omega)]
theorem part_at (s : ByteArray) (k : Nat) (hg : ∀ i, i < k → 0 ≤ hv (bt s i)) : part s (k + 1) (k / 2) = part s k (k / 2) * 16 + hv (bt s k) ∧ 0 ≤ part s k (k / 2) ∧ part s k (k / 2) ≤ 15 := by
  unfold part
  rcases Nat.mod_two_eq_zero_or_one k with h | h
  · rw [if_neg (by omega), if_pos (by omega), if_neg (by omega), if_neg (by omega)]
    rw [show 2 * (k / 2) = k by omega]; omega
  · rw [if_pos (by omega), if_neg (by omega), if_pos (by omega)]
    rw [show 2 * (k / 2) + 1 = k by omega]
    have h1 := hg (2 * (k / 2)) (by omega)
    have h2 := hv_le (bt s (2 * (k / 2)))
    omega

theorem iter_setCell (w : World) (s : ByteArray) (p : Nat) (a : Addr) (v : Value) (h : a.block < w.heap.size) : (w.iter s p).setCell a v = (w.setCell a v).iter s p := by
  simp only [World.iter, World.alloc, World.setCell]
  congr 1
  apply Array.ext
  · simp
  · intro i h1 h2
    simp only [Array.size_modify, Array.size_push] at h1
    rw [Array.getElem_modify, Array.getElem_push, Array.getElem_push]
    by_cases hi : i < w.heap.size
    · simp only [Array.size_modify, hi, dite_true, Array.getElem_modify]
    · have : a.block ≠ i := by omega
      simp [hi, this]

end Go.Proofs.Ytamdmflofbpjkaa
