/- Places of parts in a word, plain; where the letters of a tableau stand. -/
import Derived.Test.YtefbbkogfoongaaPlainH
import Derived.Test.YtefbbkogfoongaaStrB
import Derived.Lib.Strings
namespace Go.Proofs.Ytefbbkogfoongaa
open Go.ChangeShapes Go.WideShapes Go.ChangeAt Go.RowKit
open Go.PlainAid (bt bt_nonneg bt_le get_bt)
set_option linter.unusedVariables false

/-- The part stands at place i of the word. -/
def hpB (part s : ByteArray) (i : Nat) : Bool := Lib.hasPrefix (rest s i) part.data.toList
def begL (part s : ByteArray) : Nat → List Int
  | 0 => []
  | i + 1 => if hpB part s i = true then begL part s i ++ [(i : Int) + 1] else begL part s i
theorem begL_len (part s : ByteArray) (i : Nat) : (begL part s i).length ≤ i := by
  induction i with
  | zero => exact Nat.le_refl _
  | succ i ih => rw [begL]; split; (rw [List.length_append, List.length_singleton]; omega); omega
theorem ext_rest (s : ByteArray) (i : Nat) (h : i ≤ s.size) : (s.extract i s.size).data.toList = rest s i := by
  unfold rest
  rw [ByteArray.data_extract, Array.toList_extract]
  unfold List.extract
  exact List.take_of_length_le (by simp)
theorem pre_cons (a b : UInt8) (l p : List UInt8) : Lib.hasPrefix (b :: l) (a :: p) = ((a == b) && Lib.hasPrefix l p) := by
  unfold Lib.hasPrefix; rfl
theorem pre_nil (l : List UInt8) : Lib.hasPrefix l [] = true := by unfold Lib.hasPrefix; simp
theorem pre_short (a : UInt8) (p : List UInt8) : Lib.hasPrefix [] (a :: p) = false := by unfold Lib.hasPrefix; rfl
theorem hpB_one (c : UInt8) (s : ByteArray) (i : Nat) (hi : i < s.size) : hpB ⟨#[c]⟩ s i = decide (bt s i = (c.toNat : Int)) := by
  unfold hpB
  rw [rest_cons s i hi, show (⟨#[c]⟩ : ByteArray).data.toList = [c] from rfl, pre_cons, pre_nil, Bool.and_true, bt_at s i hi]
  by_cases e : c = s[i]
  · rw [← e]; simp
  · have h2 : ¬ ((s[i].toNat : Int) = (c.toNat : Int)) := fun h => e (UInt8.toNat_inj.1 (by omega))
    rw [decide_eq_false h2]; simpa using e
theorem hpB_two (c d : UInt8) (s : ByteArray) (i : Nat) (hi : i < s.size) : hpB ⟨#[c, d]⟩ s i = (decide (bt s i = (c.toNat : Int)) && (decide (i + 1 < s.size) && decide (bt s (i + 1) = (d.toNat : Int)))) := by
  have h1 := hpB_one c s i hi
  unfold hpB at h1 ⊢
  rw [rest_cons s i hi, show (⟨#[c]⟩ : ByteArray).data.toList = [c] from rfl, pre_cons, pre_nil, Bool.and_true] at h1
  rw [rest_cons s i hi, show (⟨#[c, d]⟩ : ByteArray).data.toList = [c, d] from rfl, pre_cons, h1]
  congr 1
  by_cases h2 : i + 1 < s.size
  · have h3 := hpB_one d s (i + 1) h2
    unfold hpB at h3
    rw [show (⟨#[d]⟩ : ByteArray).data.toList = [d] from rfl] at h3
    rw [h3, decide_eq_true h2, Bool.true_and]
  · rw [rest_end s (i + 1) (by omega), pre_short, decide_eq_false h2, Bool.false_and]

/-- The places of the letters u and d. -/
def plU (s : ByteArray) : Nat → List Int
  | 0 => []
  | i + 1 => if bt s i = 117 then plU s i ++ [(i : Int) + 1] else plU s i
def plD (s : ByteArray) : Nat → List Int
  | 0 => []
  | i + 1 => if bt s i = 117 then plD s i else plD s i ++ [(i : Int) + 1]
theorem plU_len (s : ByteArray) (i : Nat) : (plU s i).length ≤ i := by
  induction i with
  | zero => exact Nat.le_refl _
  | succ i ih => rw [plU]; split; (rw [List.length_append, List.length_singleton]; omega); omega
theorem plD_len (s : ByteArray) (i : Nat) : (plD s i).length ≤ i := by
  induction i with
  | zero => exact Nat.le_refl _
  | succ i ih => rw [plD]; split; omega; (rw [List.length_append, List.length_singleton]; omega)
theorem beg_u (s : ByteArray) : ∀ i, i ≤ s.size → begL ⟨#[117]⟩ s i = plU s i := by
  intro i
  induction i with
  | zero => intro _; rfl
  | succ i ih =>
    intro hi
    rw [begL, plU, ih (by omega), hpB_one 117 s i (by omega)]
    by_cases e : bt s i = 117
    · rw [if_pos e]; exact if_pos (decide_eq_true (show bt s i = ((117 : UInt8).toNat : Int) from e))
    · rw [if_neg e]; exact if_neg (by rw [decide_eq_true_eq]; exact e)
theorem beg_d {s : ByteArray} (hd : dyck s = true) : ∀ i, i ≤ s.size → begL ⟨#[100]⟩ s i = plD s i := by
  intro i
  induction i with
  | zero => intro _; rfl
  | succ i ih =>
    intro hi
    have hb := get_bt s i (by omega)
    have hl := dyck_letter hd i (by omega)
    rw [begL, plD, ih (by omega), hpB_one 100 s i (by omega)]
    by_cases e : bt s i = 117
    · rw [if_pos e, if_neg (by rw [decide_eq_true_eq, e]; decide)]
    · rw [if_neg e, if_pos (decide_eq_true (by show bt s i = 100; omega))]
def tabP (s : ByteArray) : List (List Int) := if dyck s = true then [plU s s.size, plD s s.size] else []
/-- The sum of the places of the valleys before place i + 1. -/
def vaN (s : ByteArray) : Nat → Nat
  | 0 => 0
  | i + 1 => vaN s i + if bt s i = 100 ∧ bt s (i + 1) = 117 then i + 1 else 0
theorem vaN_le (s : ByteArray) (i : Nat) : vaN s i ≤ i * 17 ∨ 16 < i := by
  induction i with
  | zero => exact .inl (Nat.le_refl _)
  | succ i ih =>
    by_cases h : 16 < i + 1
    · exact .inr h
    · left
      rw [vaN]; split <;> omega
def majP (s : ByteArray) : Int := if dyck s = true then (vaN s (s.size - 1) : Int) else -1
/-- The sum of a row. -/
def sumI (l : List Int) : Nat → Int
  | 0 => 0
  | i + 1 => sumI l i + l.getD i 0
theorem sumI_app (l : List Int) (x : Int) : ∀ i, i ≤ l.length → sumI (l ++ [x]) i = sumI l i := by
  intro i
  induction i with
  | zero => intro _; rfl
  | succ i ih =>
    intro hi
    rw [sumI, sumI, ih (by omega)]
    congr 1
    rw [List.getD_eq_getElem?_getD, List.getElem?_append_left (by omega), ← List.getD_eq_getElem?_getD]
theorem sumI_snoc (l : List Int) (x : Int) : sumI (l ++ [x]) (l ++ [x]).length = sumI l l.length + x := by
  rw [List.length_append, List.length_singleton, sumI, sumI_app l x _ (Nat.le_refl _)]
  simp [List.getD]
theorem begL_bd (part s : ByteArray) : ∀ n i, i < (begL part s n).length → 1 ≤ (begL part s n).getD i 0 ∧ (begL part s n).getD i 0 ≤ (n : Int) := by
  intro n
  induction n with
  | zero => intro i h; simp [begL] at h
  | succ n ih =>
    intro i h
    rw [begL] at h ⊢
    split at h
    · rename_i hb
      rw [if_pos hb]
      rw [List.length_append, List.length_singleton] at h
      by_cases e : i < (begL part s n).length
      · rw [List.getD_eq_getElem?_getD, List.getElem?_append_left e, ← List.getD_eq_getElem?_getD]
        have := ih i e; omega
      · obtain rfl : i = (begL part s n).length := by omega
        have : ((begL part s n) ++ [(n : Int) + 1]).getD (begL part s n).length 0 = (n : Int) + 1 := by simp [List.getD]
        rw [this]; omega
    · rename_i hb
      rw [if_neg hb]
      have := ih i h; omega
theorem sum_va (s : ByteArray) : ∀ n, n + 1 ≤ s.size → sumI (begL ⟨#[100, 117]⟩ s n) (begL ⟨#[100, 117]⟩ s n).length = (vaN s n : Int) := by
  intro n
  induction n with
  | zero => intro _; rfl
  | succ n ih =>
    intro hn
    have h := ih (by omega)
    rw [begL, vaN, hpB_two 100 117 s n (by omega), decide_eq_true (show n + 1 < s.size by omega), Bool.true_and]
    by_cases e : bt s n = 100 ∧ bt s (n + 1) = 117
    · rw [if_pos e, if_pos (by rw [decide_eq_true (show bt s n = ((100 : UInt8).toNat : Int) from e.1), decide_eq_true (show bt s (n + 1) = ((117 : UInt8).toNat : Int) from e.2)]; rfl), sumI_snoc, h]
      push_cast; omega
    · rw [if_neg e, if_neg, h, Nat.add_zero]
      intro hh
      rw [Bool.and_eq_true, decide_eq_true_eq, decide_eq_true_eq] at hh
      exact e ⟨hh.1, hh.2⟩
theorem sum_maj {s : ByteArray} (hd : dyck s = true) : sumI (begL ⟨#[100, 117]⟩ s s.size) (begL ⟨#[100, 117]⟩ s s.size).length = majP s := by
  rw [show majP s = (vaN s (s.size - 1) : Int) from if_pos hd]
  rcases Nat.eq_zero_or_pos s.size with h0 | h0
  · rw [h0]; rfl
  · have h := sum_va s (s.size - 1) (by omega)
    obtain ⟨n, hn⟩ : ∃ n, s.size = n + 1 := ⟨s.size - 1, by omega⟩
    rw [hn, Nat.add_sub_cancel] at h ⊢
    rw [← h, begL, hpB_two 100 117 s n (by omega), decide_eq_false (show ¬ n + 1 < s.size by omega), Bool.false_and, Bool.and_false]
    rfl

end Go.Proofs.Ytefbbkogfoongaa
