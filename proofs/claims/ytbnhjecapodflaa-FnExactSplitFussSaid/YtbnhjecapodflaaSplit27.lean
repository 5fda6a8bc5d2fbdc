/- SplitFuss: plain facts. -/
import Derived.Test.YtbnhjecapodflaaFz27
import Derived.Test.YtbnhjecapodflaaLawLists
import Derived.Test.YtbnhjecapodflaaSpec2E
namespace Go.Proofs.Ytbnhjecapodflaa
open Go.ChangeShapes Go.WideShapes Go.ChangeAt Go.RowKit
open Go.PlainAid (bt bt_nonneg bt_le get_bt bt_end)
set_option linter.unusedVariables false

/-- The height behind k letters. -/
def hG (m : Int) (s : ByteArray) : Nat → Int
  | 0 => 0
  | k + 1 => hG m s k + (if bt s k = 117 then m - 1 else -1)
theorem hG_up {m : Int} {s : ByteArray} {k : Nat} (h : bt s k = 117) : hG m s (k + 1) = hG m s k + (m - 1) := by rw [hG, if_pos h]
theorem hG_down {m : Int} {s : ByteArray} {k : Nat} (h : bt s k = 100) : hG m s (k + 1) = hG m s k + -1 := by rw [hG, if_neg (by omega)]
/-- A word of Fuss, letter by letter. -/
structure FzW (m : Int) (s : ByteArray) : Prop where
  m1 : 1 ≤ m
  m4 : m ≤ 4
  size : s.size ≤ 24
  letter : ∀ i, i < s.size → bt s i = 117 ∨ bt s i = 100
  nn : ∀ i, i ≤ s.size → 0 ≤ hG m s i
  fin : hG m s s.size = 0
theorem fz_step {m : Int} {s : ByteArray} {i : Nat} (hi : i < s.size) (h : spG (fz m) (hG m s i) (rest s i) = true) : (bt s i = 117 ∨ bt s i = 100) ∧ 0 ≤ hG m s (i + 1) ∧ spG (fz m) (hG m s (i + 1)) (rest s (i + 1)) = true := by
  have hb := bt_at s i hi
  rw [rest_cons s i hi] at h
  by_cases e1 : bt s i = 117
  · have hf : fnd (fz m) (s[i].toNat : Int) = some (117, m - 1, 1) := by rw [fnd_fz, ← hb, e1]; rfl
    refine ⟨.inl e1, ?_⟩
    rw [hG_up e1]
    by_cases hl : hG m s i + (m - 1) < 0
    · rw [spG_low _ _ hf hl] at h; cases h
    · rw [spG_on _ _ hf hl] at h; exact ⟨by omega, h⟩
  · by_cases e2 : bt s i = 100
    · have hf : fnd (fz m) (s[i].toNat : Int) = some (100, -1, 1) := by rw [fnd_fz, ← hb, e2]; rfl
      refine ⟨.inr e2, ?_⟩
      rw [hG_down e2]
      by_cases hl : hG m s i + -1 < 0
      · rw [spG_low _ _ hf hl] at h; cases h
      · rw [spG_on _ _ hf hl] at h; exact ⟨by omega, h⟩
    · have hf : fnd (fz m) (s[i].toNat : Int) = none := by rw [fnd_fz, ← hb, if_neg e1, if_neg e2]
      rw [spG_no _ _ hf] at h; cases h
theorem fz_word {m : Int} {s : ByteArray} (h : fuB m s = true) : FzW m s := by
  unfold fuB alB at h
  simp only [Bool.and_eq_true, decide_eq_true_eq] at h
  obtain ⟨⟨h1, h4⟩, hsp, hw⟩ := h
  have hz : s.data.toList.length = s.size := by simp
  rw [wd_len m _ _ hsp, hz] at hw
  have key : ∀ i, i ≤ s.size → 0 ≤ hG m s i ∧ spG (fz m) (hG m s i) (rest s i) = true := by
    intro i
    induction i with
    | zero => intro _; exact ⟨by simp [hG], hsp⟩
    | succ i ih =>
      intro hi
      have := fz_step (by omega) (ih (by omega)).2
      exact this.2
  refine ⟨h1, h4, by omega, fun i hi => (fz_step hi (key i (by omega)).2).1, fun i hi => (key i hi).1, ?_⟩
  have := (key s.size (Nat.le_refl _)).2
  rw [rest_end s s.size (Nat.le_refl _), spG_nil] at this
  simpa using this

/-- Where a part begins, the least height, and the parts, behind i letters. -/
def stP (m : Int) (s : ByteArray) : Nat → Nat × Int × List ByteArray
  | 0 => (1, m - 1, [])
  | i + 1 => if hG m s (i + 1) < (stP m s i).2.1 then (i + 1, hG m s (i + 1), (stP m s i).2.2 ++ [s.extract (stP m s i).1 i]) else stP m s i
theorem stP_low {m : Int} {s : ByteArray} {i b : Nat} {l : Int} {acc : List ByteArray} (h : stP m s i = (b, l, acc)) (hl : hG m s (i + 1) < l) : stP m s (i + 1) = (i + 1, hG m s (i + 1), acc ++ [s.extract b i]) := by
  rw [stP, h]; exact if_pos hl
theorem stP_not {m : Int} {s : ByteArray} {i b : Nat} {l : Int} {acc : List ByteArray} (h : stP m s i = (b, l, acc)) (hl : ¬ hG m s (i + 1) < l) : stP m s (i + 1) = (b, l, acc) := by
  rw [stP, h]; exact if_neg hl
theorem stP_one {m : Int} {s : ByteArray} (hw : FzW m s) (h0 : 0 < s.size) : hG m s 1 = m - 1 ∧ stP m s 1 = (1, m - 1, []) := by
  have hh : hG m s 1 = m - 1 := by
    rcases hw.letter 0 h0 with e | e
    · rw [hG_up e, hG]; omega
    · have := hw.nn 1 h0
      rw [hG_down e, hG] at this; omega
  exact ⟨hh, stP_not rfl (by rw [hh]; omega)⟩
theorem stP_bd {m : Int} {s : ByteArray} (hw : FzW m s) (h0 : 0 < s.size) : ∀ i, 1 ≤ i → i ≤ s.size → 1 ≤ (stP m s i).1 ∧ (stP m s i).1 ≤ i ∧ 0 ≤ (stP m s i).2.1 ∧ (stP m s i).2.1 ≤ m - 1 ∧ (stP m s i).2.2.length ≤ i := by
  intro i
  induction i with
  | zero => intro h; omega
  | succ i ih =>
    intro _ hi
    by_cases h1 : i = 0
    · subst h1
      rw [(stP_one hw h0).2]
      have := hw.m1
      exact ⟨Nat.le_refl 1, Nat.le_refl 1, by show 0 ≤ m - 1; omega, Int.le_refl _, Nat.zero_le _⟩
    · obtain ⟨a1, a2, a3, a4, a5⟩ := ih (by omega) (by omega)
      have hn := hw.nn (i + 1) hi
      rw [stP]
      split
      · rename_i hlow
        refine ⟨by show 1 ≤ i + 1; omega, Nat.le_refl _, hn, by show hG m s (i + 1) ≤ m - 1; omega, ?_⟩
        show ((stP m s i).2.2 ++ [_]).length ≤ i + 1
        rw [List.length_append]; simp only [List.length_cons, List.length_nil]; omega
      · exact ⟨a1, by omega, a3, a4, by omega⟩
theorem stP_stay {m : Int} {s : ByteArray} (hw : FzW m s) {i : Nat} (h : (stP m s i).2.1 = 0) : ∀ d, i + d ≤ s.size → stP m s (i + d) = stP m s i := by
  intro d
  induction d with
  | zero => intro _; rfl
  | succ d ih =>
    intro hd
    have e := ih (by omega)
    rw [← Nat.add_assoc, stP, e, h, if_neg]
    have := hw.nn (i + d + 1) (by omega)
    omega
def spW (m : Int) (s : ByteArray) : List ByteArray := (stP m s s.size).2.2 ++ [s.extract (stP m s s.size).1 s.size]
theorem spW_is {m : Int} {s : ByteArray} {b : Nat} {l : Int} {acc : List ByteArray} (h : stP m s s.size = (b, l, acc)) : spW m s = acc ++ [s.extract b s.size] := by unfold spW; rw [h]
theorem spW_stay {m : Int} {s : ByteArray} (hw : FzW m s) {i b : Nat} {acc : List ByteArray} (hi : i ≤ s.size) (h : stP m s i = (b, 0, acc)) : spW m s = acc ++ [s.extract b s.size] := by
  apply spW_is (l := 0)
  have := stP_stay hw (i := i) (by rw [h]) (s.size - i) (by omega)
  rw [show i + (s.size - i) = s.size by omega] at this
  rw [this, h]
def splOk (m : Int) (s : ByteArray) : Bool := fuB m s && decide (0 < s.size)
def splP (m : Int) (s : ByteArray) : List ByteArray := if splOk m s = true then spW m s else []
theorem splP_len (m : Int) (s : ByteArray) : (splP m s).length ≤ 25 := by
  unfold splP
  split
  · rename_i h
    unfold splOk at h
    simp only [Bool.and_eq_true, decide_eq_true_eq] at h
    have hw := fz_word h.1
    have := (stP_bd hw h.2 s.size h.2 (Nat.le_refl _)).2.2.2.2
    unfold spW
    rw [List.length_append]; simp only [List.length_cons, List.length_nil]
    have := hw.size
    omega
  · simp
/-- A part and the letter behind it. -/
theorem ext_on (s : ByteArray) (a b : Nat) (h1 : a ≤ b) (h2 : b < s.size) : s.extract a b ++ s.extract b (b + 1) = s.extract a (b + 1) := by
  apply str_ext
  · simp only [ByteArray.size_append, ByteArray.size_extract]; omega
  · intro k hk
    simp only [ByteArray.size_append, ByteArray.size_extract] at hk
    rw [bt_app]
    by_cases hka : k < (s.extract a b).size
    · rw [if_pos hka]
      rw [ByteArray.size_extract] at hka
      rw [bt_ext s a b k (by omega) (by omega), bt_ext s a (b + 1) k (by omega) (by omega)]
    · rw [if_neg hka]
      rw [ByteArray.size_extract] at hka ⊢
      rw [bt_ext s b (b + 1) _ (by omega) (by omega), bt_ext s a (b + 1) k (by omega) (by omega)]
      congr 1; omega
def AnsSB (xs : List ByteArray) (b : Bool) (w : World) (e : Ending) (w' : World) : Prop := ∃ v, e = .returned (.tuple #[v, .bool b]) ∧ OwnS w' w.heap.size w'.heap.size v xs ∧ Below w.heap.size w w'
theorem ret_spl {A A' : Value} {x y : Bool} (h : A = A') (h' : x = y) : Ending.returned (.tuple #[A, .bool x]) = .returned (.tuple #[A', .bool y]) := by rw [h, h']

end Go.Proofs.Ytbnhjecapodflaa
