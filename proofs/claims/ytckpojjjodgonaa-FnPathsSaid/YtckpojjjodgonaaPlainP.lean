/- Plain words: the number of times that 'ud' stands in a word is the number of its peaks. -/
import Derived.Test.YtckpojjjodgonaaSpec2D
import Derived.Shelf.Strings.Count
namespace Go.Proofs.Ytckpojjjodgonaa
open Go.RowKit
open Go.PlainAid (bt bt_nonneg bt_le get_bt)
set_option linter.unusedVariables false

/-- The peaks of a list of letters. -/
def pkL : List UInt8 → Nat
  | [] => 0
  | [_] => 0
  | a :: b :: l => (if a = 117 ∧ b = 100 then 1 else 0) + pkL (b :: l)
theorem index_cons_no {b : UInt8} {l sub : List UInt8} (h : sub.isPrefixOf (b :: l) = false) : Lib.index (b :: l) sub = if Lib.index l sub == -1 then -1 else Lib.index l sub + 1 := by
  conv => lhs; unfold Lib.index
  rw [if_neg (by simp [h])]
theorem count_cons_no {b : UInt8} {l sub : List UInt8} (hs : sub ≠ []) (h : sub.isPrefixOf (b :: l) = false) : Lib.count (b :: l) sub = Lib.count l sub := by
  have e := index_cons_no h
  rcases Lib.index_spec l sub with ⟨h1, -⟩ | ⟨i, h1, -, -, -⟩
  · rw [h1] at e
    rw [Lib.count_miss h1, Lib.count_miss (by rw [e]; rfl)]
  · have : ((i : Int) == -1) = false := by rw [beq_eq_false_iff_ne]; omega
    rw [h1, this] at e
    rw [Lib.count_hit hs h1, Lib.count_hit (i := i + 1) hs (by rw [e]; simp)]
    rw [show i + 1 + sub.length = (i + sub.length) + 1 by omega, List.drop_succ_cons]
theorem count_cons_yes {b : UInt8} {l sub : List UInt8} (hs : sub ≠ []) (h : sub.isPrefixOf (b :: l) = true) : Lib.count (b :: l) sub = 1 + Lib.count ((b :: l).drop sub.length) sub := by
  have e : Lib.index (b :: l) sub = ((0 : Nat) : Int) := by
    unfold Lib.index
    rw [if_pos h]; rfl
  rw [Lib.count_hit hs e, Nat.zero_add]
theorem count_pk : ∀ l : List UInt8, Lib.count l [117, 100] = pkL l
  | [] => Lib.count_miss rfl
  | [a] => by
    rw [count_cons_no (by simp) (by simp [List.isPrefixOf])]
    exact Lib.count_miss rfl
  | a :: b :: l => by
    have ih := count_pk (b :: l)
    by_cases h : a = 117 ∧ b = 100
    · rw [count_cons_yes (by simp) (by simp [List.isPrefixOf, h.1, h.2])]
      rw [pkL, if_pos h, ← ih, h.2]
      congr 1
      show Lib.count l _ = Lib.count (100 :: l) _
      rw [count_cons_no (by simp) (by simp [List.isPrefixOf])]
    · have hp : List.isPrefixOf [117, 100] (a :: b :: l) = false := by
        rw [Bool.eq_false_iff]
        intro hh
        simp [List.isPrefixOf] at hh
        exact h ⟨hh.1.symm, hh.2.symm⟩
      rw [count_cons_no (by simp) hp, ih, pkL, if_neg h, Nat.zero_add]

/-- The peaks from place k on, up to place m. -/
def pkR (s : ByteArray) (k : Nat) : Nat → Nat
  | 0 => 0
  | m + 1 => pkR s k m + if bt s (k + m) = 117 ∧ bt s (k + m + 1) = 100 then 1 else 0
theorem pkR_zero (s : ByteArray) (m : Nat) : pkR s 0 m = pkN s m := by
  induction m with
  | zero => rfl
  | succ m ih => rw [pkR, pkN, ih, Nat.zero_add]
theorem pkR_front (s : ByteArray) (k m : Nat) : pkR s k (m + 1) = (if bt s k = 117 ∧ bt s (k + 1) = 100 then 1 else 0) + pkR s (k + 1) m := by
  induction m with
  | zero => simp [pkR]
  | succ m ih =>
    rw [pkR, ih, pkR]
    rw [show k + 1 + m = k + (m + 1) by omega]; omega
theorem pkL_rest (s : ByteArray) : ∀ m k, k + m + 1 = s.size → pkL (rest s k) = pkR s k m := by
  intro m
  induction m with
  | zero =>
    intro k hk
    rw [rest_cons s k (by omega), rest_end s (k + 1) (by omega)]; rfl
  | succ m ih =>
    intro k hk
    have h1 := ih (k + 1) (by omega)
    rw [rest_cons s (k + 1) (by omega)] at h1
    rw [rest_cons s k (by omega), rest_cons s (k + 1) (by omega), pkL, h1, pkR_front]
    congr 1
    have e1 := bt_at s k (by omega)
    have e2 := bt_at s (k + 1) (by omega)
    have a : (s[k] = 117) ↔ bt s k = 117 := by
      rw [e1]
      constructor
      · intro h; rw [h]; rfl
      · intro h; exact UInt8.toNat_inj.1 (by have : (117 : UInt8).toNat = 117 := rfl; omega)
    have b : (s[k + 1] = 100) ↔ bt s (k + 1) = 100 := by
      rw [e2]
      constructor
      · intro h; rw [h]; rfl
      · intro h; exact UInt8.toNat_inj.1 (by have : (100 : UInt8).toNat = 100 := rfl; omega)
    simp only [a, b]
theorem count_peaks (s : ByteArray) : Lib.countB s ⟨#[117, 100]⟩ = pkN s (s.size - 1) := by
  show Lib.count s.data.toList [117, 100] = _
  rw [count_pk, ← rest_zero]
  by_cases h : s.size = 0
  · rw [rest_end s 0 (by omega), h]; rfl
  · rw [pkL_rest s (s.size - 1) 0 (by omega), pkR_zero]

end Go.Proofs.Ytckpojjjodgonaa
