/- The contracts of the small tests l1In and isFixedWidth and of both DecodeFixed (the model's and the program's): on a valid width both give the number that the bytes spell, else 0 and false. -/
import Derived.Test.YtamdmflofbpjkaaRows
import Derived.WalkKit
import Derived.ProofKit
import Derived.OpenShut
import Derived.ShutString
import Derived.BigQuiet
import Derived.Deep.QuietTactic
import Derived.IntWalk
import Derived.Outline
import Derived.Lib.Hide
namespace Go.Proofs.Ytamdmflofbpjkaa
open Go.ChangeShapes Go.WideShapes Go.ChangeAt Go.RowKit
set_option linter.unusedVariables false

def inB (x lo hi : Int) : Bool := decide (lo ≤ x) && decide (x ≤ hi)

theorem l1In_yes (x lo hi : Int) (w : World) (h1 : lo ≤ x) (h2 : x ≤ hi) :
    Calls Try.prog 21 #[.int .i64 x, .int .i64 lo, .int .i64 hi] w fun e w' => e = .returned (.bool true) ∧ w = w' := by
  go_enter Try.func21, Try.ntmps21
  go_wp2
  go_ret
  exact ⟨rfl, rfl⟩

theorem l1In_no1 (x lo hi : Int) (w : World) (h1 : x < lo) :
    Calls Try.prog 21 #[.int .i64 x, .int .i64 lo, .int .i64 hi] w fun e w' => e = .returned (.bool false) ∧ w = w' := by
  go_enter Try.func21, Try.ntmps21
  go_wp2
  go_ret
  exact ⟨rfl, rfl⟩
theorem l1In_no2 (x lo hi : Int) (w : World) (h1 : lo ≤ x) (h2 : hi < x) :
    Calls Try.prog 21 #[.int .i64 x, .int .i64 lo, .int .i64 hi] w fun e w' => e = .returned (.bool false) ∧ w = w' := by
  go_enter Try.func21, Try.ntmps21
  go_wp2
  go_ret
  exact ⟨by simpa using h2, rfl⟩
theorem fw_yes (x : Int) (w : World) (h1 : 1 ≤ x) (h2 : x ≤ 7) :
    Calls Try.prog 22 #[.int .i64 x] w fun e w' => e = .returned (.bool true) ∧ w = w' := by
  go_enter Try.func22, Try.ntmps22
  go_wp2
  go_ret
  exact ⟨rfl, rfl⟩
theorem fw_no (x : Int) (w : World) (h1 : x < 1 ∨ 7 < x) :
    Calls Try.prog 22 #[.int .i64 x] w fun e w' => e = .returned (.bool false) ∧ w = w' := by
  rcases h1 with h1 | h1
  · go_enter Try.func22, Try.ntmps22
    go_wp2
    go_ret
    exact ⟨rfl, rfl⟩
  · have h2 : 1 ≤ x := by omega
    go_enter Try.func22, Try.ntmps22
    go_wp2
    go_ret
    exact ⟨by simpa using h1, rfl⟩
theorem specDF_no (s : ByteArray) (k : Int) (w : World) (hs : s.size ≤ maxLen) (h : k < 1 ∨ 7 < k ∨ (s.size : Int) < k) :
    Calls Try.prog 11 #[.string s, .int .i64 k] w fun e w' => e = .returned (.tuple #[.int .i64 0, .bool false]) ∧ w = w' := by
  unfold maxLen at hs
  by_cases ha : k < 1
  · go_enter Try.func11, Try.ntmps11
    go_wp2
    go_ret2
    exact ⟨rfl, rfl⟩
  · by_cases hb : 7 < k
    · have ha' : 1 ≤ k := by omega
      go_enter Try.func11, Try.ntmps11
      go_wp2
      go_ret2
      exact ⟨rfl, rfl⟩
    · have ha' : 1 ≤ k := by omega
      have hb' : k ≤ 7 := by omega
      have hc : (s.size : Int) < k := by omega
      go_enter Try.func11, Try.ntmps11
      go_wp2
      go_ret2
      exact ⟨rfl, rfl⟩


def dec (l : List UInt8) : Int := l.foldl (fun n c => n * 256 + (c.toNat : Int)) 0
theorem dec_snoc (l : List UInt8) (c : UInt8) : dec (l ++ [c]) = dec l * 256 + (c.toNat : Int) := by
  simp [dec]
theorem take_snoc (s : ByteArray) (k : Nat) (h : k < s.size) : s.data.toList.take (k + 1) = s.data.toList.take k ++ [s[k]] := by
  rw [List.take_succ_eq_append_getElem (by simpa using h)]; rfl
theorem dec_bd (l : List UInt8) : 0 ≤ dec l ∧ dec l < 256 ^ l.length := by
  have key : ∀ (l : List UInt8) (a : Int) (k : Nat), 0 ≤ a → a < 256 ^ k → 0 ≤ l.foldl (fun n c => n * 256 + (c.toNat : Int)) a ∧ l.foldl (fun n c => n * 256 + (c.toNat : Int)) a < 256 ^ (k + l.length) := by
    intro l
    induction l with
    | nil => intro a k h1 h2; exact ⟨h1, by simpa using h2⟩
    | cons c l ih =>
      intro a k h1 h2
      have hc : (c.toNat : Int) < 256 := by have := c.toNat_lt; omega
      have h := ih (a * 256 + (c.toNat : Int)) (k + 1) (by omega) (by rw [Int.pow_succ]; omega)
      simp only [List.foldl_cons, List.length_cons]
      rw [show k + (l.length + 1) = k + 1 + l.length by omega]
      exact h
  have := key l 0 0 (by omega) (by simp)
  rw [Nat.zero_add] at this
  exact this
theorem dec_bd7 (l : List UInt8) (h : l.length ≤ 6) : 0 ≤ dec l ∧ dec l ≤ 281474976710655 := by
  obtain ⟨h1, h2⟩ := dec_bd l
  have h3 : (256 : Nat) ^ l.length ≤ 256 ^ 6 := Nat.pow_le_pow_right (by omega) h
  have h4 : ((256 ^ l.length : Nat) : Int) = (256 : Int) ^ l.length := Int.natCast_pow 256 l.length
  have e : (256 : Nat) ^ 6 = 281474976710656 := by decide
  omega

theorem wraps_i64 (n : Int) (h₀ : 0 ≤ n) (h₁ : n < 2 ^ 63) : IntKind.i64.wrap n = n := IntWalk.i64_in n (by omega)
theorem or_low (a c : Int) (ha : 0 ≤ a) (hb : a ≤ 281474976710655) (hc : 0 ≤ c) (hd : c < 256) : bits .or .i64 (a * 256) c = a * 256 + c :=
  bits_join .i64 63 (by decide) wraps_i64 8 (a * 256) c (by omega) (by simp) (by omega) hc (by omega) (by omega)
theorem implDF_no (s : ByteArray) (k : Int) (w : World) (hs : s.size ≤ maxLen) (h : k < 1 ∨ 7 < k ∨ (s.size : Int) < k) :
    Calls Try.prog 12 #[.string s, .int .i64 k] w fun e w' => e = .returned (.tuple #[.int .i64 0, .bool false]) ∧ w = w' := by
  unfold maxLen at hs
  by_cases ha : k < 1 ∨ 7 < k
  · go_enter Try.func12, Try.ntmps12
    go_wp2_with (go_at_call 22; refine (fw_no _ _ ha).mono ?_; rintro e w' ⟨rfl, rfl⟩)
    go_ret2
    exact ⟨rfl, rfl⟩
  · have ha' : 1 ≤ k := by omega
    have hb' : k ≤ 7 := by omega
    have hc : (s.size : Int) < k := by omega
    clear ha h
    go_enter Try.func12, Try.ntmps12
    go_wp2
    go_ret2
    exact ⟨rfl, rfl⟩

theorem specDF_yes (s : ByteArray) (k : Nat) (w : World) (hs : s.size ≤ maxLen) (h1 : 1 ≤ k) (h7 : k ≤ 7) (hk : k ≤ s.size) :
    Calls Try.prog 11 #[.string s, .int .i64 k] w fun e w' => e = .returned (.tuple #[.int .i64 (dec (s.data.toList.take k)), .bool true]) ∧ w = w' := by
  unfold maxLen at hs
  go_enter Try.func11, Try.ntmps11
  go_wp2
  go_loop [6, 7] (fun n i => ∃ j : Nat, j ≤ k ∧ i = .int .i64 j ∧ n = .int .i64 (dec (s.data.toList.take j))) (fun _ i => k - (intOf i).toNat)
  case atStart => exact ⟨0, Nat.zero_le _, rfl, rfl⟩
  case round =>
    obtain ⟨j, hj, rfl, rfl⟩ := hrel
    by_cases hlt : j < k
    · have hd := dec_bd7 (s.data.toList.take j) (by have := List.length_take_le j s.data.toList; omega)
      have hsz : j < s.size := by omega
      have hc : (s[j].toNat : Int) < 256 := by have := s[j].toNat_lt; omega
      have HS : Hid (dec (s.data.toList.take (j + 1)) = dec (s.data.toList.take j) * 256 + (s[j].toNat : Int)) := by
        rw [take_snoc s j hsz]; exact dec_snoc _ _
      go_wp2
      go_round
      case rel => exact ⟨j + 1, by omega, by go_num, by rw [HS.out]⟩
      case measure => simp [intOf]; omega
    · go_wp2
      go_ret2
      obtain rfl : j = k := by omega
      exact ⟨rfl, rfl⟩
theorem implDF_yes (s : ByteArray) (k : Nat) (w : World) (hs : s.size ≤ maxLen) (h1 : 1 ≤ k) (h7 : k ≤ 7) (hk : k ≤ s.size) :
    Calls Try.prog 12 #[.string s, .int .i64 k] w fun e w' => e = .returned (.tuple #[.int .i64 (dec (s.data.toList.take k)), .bool true]) ∧ w = w' := by
  unfold maxLen at hs
  go_enter Try.func12, Try.ntmps12
  go_wp2
  go_loop [6, 18] (fun n i => ∃ j : Nat, j ≤ k ∧ i = .int .i64 j ∧ n = .int .i64 (dec (s.data.toList.take j))) (fun _ i => k - (intOf i).toNat)
  case atStart => exact ⟨0, Nat.zero_le _, rfl, rfl⟩
  case round =>
    obtain ⟨j, hj, rfl, rfl⟩ := hrel
    by_cases hlt : j < k
    · have hd := dec_bd7 (s.data.toList.take j) (by have := List.length_take_le j s.data.toList; omega)
      have hsz : j < s.size := by omega
      have hc : (s[j].toNat : Int) < 256 := by have := s[j].toNat_lt; omega
      have HS : Hid (dec (s.data.toList.take (j + 1)) = dec (s.data.toList.take j) * 256 + (s[j].toNat : Int)) := by
        rw [take_snoc s j hsz]; exact dec_snoc _ _
      go_wp2
      go_round
      case rel => 
        refine ⟨j + 1, by omega, by go_num, ?_⟩
        rw [HS.out, or_low _ _ (by omega) (by omega) (by omega) (by omega)]
      case measure => simp [intOf]; omega
    · go_wp2
      go_ret2
      obtain rfl : j = k := by omega
      exact ⟨rfl, rfl⟩
end Go.Proofs.Ytamdmflofbpjkaa
