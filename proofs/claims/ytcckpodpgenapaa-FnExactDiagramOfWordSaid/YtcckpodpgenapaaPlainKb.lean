/- The places of the letters u that are open, and the partners of the letters, plain. -/
import Derived.Test.YtcckpodpgenapaaPlainH
import Derived.Test.YtcckpodpgenapaaSpec4B
import Derived.Test.YtcckpodpgenapaaStrB
namespace Go.Proofs.Ytcckpodpgenapaa
open Go.ChangeShapes Go.WideShapes Go.ChangeAt Go.RowKit
open Go.PlainAid (bt bt_nonneg bt_le get_bt)
set_option linter.unusedVariables false

/-- The places of the letters u that are open behind the first i letters. -/
def stk (s : ByteArray) : Nat → List Nat
  | 0 => []
  | i + 1 => if bt s i = 117 then stk s i ++ [i] else (stk s i).dropLast
theorem stk_up {s : ByteArray} {i : Nat} (h : bt s i = 117) : stk s (i + 1) = stk s i ++ [i] := by rw [stk, if_pos h]
theorem stk_down {s : ByteArray} {i : Nat} (h : bt s i ≠ 117) : stk s (i + 1) = (stk s i).dropLast := by rw [stk, if_neg h]
/-- What is known of the open letters. -/
def StkOk (s : ByteArray) (i : Nat) : Prop :=
  ((stk s i).length : Int) = hAt s i ∧ ∀ (j : Nat) (h : j < (stk s i).length), (stk s i)[j] < i ∧ bt s (stk s i)[j] = 117 ∧ hAt s (stk s i)[j] = j ∧ ∀ q, (stk s i)[j] < q → q ≤ i → (j : Int) + 1 ≤ hAt s q
theorem stk_ok {s : ByteArray} (hd : dyck s = true) : ∀ i, i ≤ s.size → StkOk s i := by
  intro i
  induction i with
  | zero => intro _; exact ⟨by rw [hAt_zero]; rfl, fun j h => by simp [stk] at h⟩
  | succ i ih =>
    intro hi
    obtain ⟨h1, h2⟩ := ih (by omega)
    have hb := get_bt s i (by omega)
    by_cases e : bt s i = 117
    · have hu := hAt_up s i (by omega) (by omega)
      unfold StkOk
      rw [stk_up e]
      refine ⟨by rw [List.length_append, hu, ← h1]; simp, fun j h => ?_⟩
      rw [List.length_append, List.length_singleton] at h
      by_cases hj : j < (stk s i).length
      · obtain ⟨a, b, c, d⟩ := h2 j hj
        rw [List.getElem_append_left hj]
        refine ⟨by omega, b, c, fun q q1 q2 => ?_⟩
        by_cases hq : q ≤ i
        · exact d q q1 hq
        · obtain rfl : q = i + 1 := by omega
          rw [hu]; omega
      · obtain rfl : j = (stk s i).length := by omega
        have e2 : (stk s i ++ [i])[(stk s i).length]'(by simp) = i := by simp
        rw [e2]
        refine ⟨by omega, e, h1.symm, fun q q1 q2 => ?_⟩
        obtain rfl : q = i + 1 := by omega
        rw [hu]; omega
    · have hu := hAt_down s i (by omega) (by omega)
      have h0 := (hAt_fit hd (i + 1) hi).1
      unfold StkOk
      rw [stk_down e]
      refine ⟨by rw [List.length_dropLast, hu, ← h1]; omega, fun j h => ?_⟩
      rw [List.length_dropLast] at h
      obtain ⟨a, b, c, d⟩ := h2 j (by omega)
      rw [List.getElem_dropLast]
      refine ⟨by omega, b, c, fun q q1 q2 => ?_⟩
      by_cases hq : q ≤ i
      · exact d q q1 hq
      · obtain rfl : q = i + 1 := by omega
        rw [hu]; omega
theorem fw_to {s : ByteArray} (hd : dyck s = true) {p i : Nat} (hi : i < s.size) (e : bt s i ≠ 117) (h0 : hAt s i = hAt s p + 1) (hq : ∀ q, p < q → q ≤ i → hAt s p + 1 ≤ hAt s q) :
    ∀ m k, m + k = i → p ≤ k → fwL s p (hAt s k - hAt s p) (rest s k) k = i := by
  intro m
  induction m with
  | zero =>
    intro k hk hp
    obtain rfl : k = i := by omega
    have hb := get_bt s k hi
    rw [rest_cons s k hi, fwL_hit _ _ _ _ _ _ (by rw [if_neg (by omega)]; omega)]
  | succ m ih =>
    intro k hk hp
    have hks : k < s.size := by omega
    have hb := get_bt s k hks
    have h1 := hq (k + 1) (by omega) (by omega)
    by_cases e1 : s[k].toNat = 117
    · have hu := hAt_up s k hks e1
      rw [rest_cons s k hks, fwL_miss _ _ _ _ _ _ (by rw [if_pos e1]; omega), if_pos e1, show hAt s k - hAt s p + 1 = hAt s (k + 1) - hAt s p by omega]
      exact ih (k + 1) (by omega) (by omega)
    · have hu := hAt_down s k hks e1
      rw [rest_cons s k hks, fwL_miss _ _ _ _ _ _ (by rw [if_neg e1]; omega), if_neg e1, show hAt s k - hAt s p - 1 = hAt s (k + 1) - hAt s p by omega]
      exact ih (k + 1) (by omega) (by omega)
theorem bk_to {s : ByteArray} (hd : dyck s = true) {p i : Nat} (hi : i < s.size) (hp : p < i) (h0 : hAt s (i + 1) = hAt s p) (hq : ∀ q, p < q → q ≤ i → hAt s p + 1 ≤ hAt s q) :
    ∀ k, p ≤ k → k ≤ i → bkL s (k + 1) (hAt s (k + 1) - hAt s (i + 1)) = p := by
  intro k
  induction k with
  | zero =>
    intro h1 h2
    obtain rfl : p = 0 := by omega
    have hb := get_bt s 0 (by omega)
    rcases dyck_letter hd 0 (by omega) with e | e
    · have hu := hAt_up s 0 (by omega) e
      rw [bkL_hit _ _ _ (by rw [if_neg (by omega)]; omega)]
    · have hu := hAt_down s 0 (by omega) (by omega)
      rw [bkL_hit _ _ _ (by rw [if_pos (by omega)]; omega)]
  | succ k ih =>
    intro h1 h2
    have hb := get_bt s (k + 1) (by omega)
    by_cases hk : p = k + 1
    · subst hk
      rcases dyck_letter hd (k + 1) (by omega) with e | e
      · have hu := hAt_up s (k + 1) (by omega) e
        rw [bkL_hit _ _ _ (by rw [if_neg (by omega)]; omega)]
      · have hu := hAt_down s (k + 1) (by omega) (by omega)
        rw [bkL_hit _ _ _ (by rw [if_pos (by omega)]; omega)]
    · have h3 := hq (k + 1) (by omega) h2
      have := ih (by omega) (by omega)
      rcases dyck_letter hd (k + 1) (by omega) with e | e
      · have hu := hAt_up s (k + 1) (by omega) e
        rw [bkL_miss _ _ _ (by rw [if_neg (by omega)]; omega), if_neg (by omega), show hAt s (k + 1 + 1) - hAt s (i + 1) - 1 = hAt s (k + 1) - hAt s (i + 1) by omega]
        exact this
      · have hu := hAt_down s (k + 1) (by omega) (by omega)
        rw [bkL_miss _ _ _ (by rw [if_pos (by omega)]; omega), if_pos (by omega), show hAt s (k + 1 + 1) - hAt s (i + 1) + 1 = hAt s (k + 1) - hAt s (i + 1) by omega]
        exact this
/-- A letter d and the last letter u that is open are partners. -/
theorem partners {s : ByteArray} (hd : dyck s = true) {i : Nat} (hi : i < s.size) (e : bt s i ≠ 117) :
    ∃ (l : Nat) (h : l < (stk s i).length), (stk s i).length = l + 1 ∧ (stk s i)[l] < i ∧ partL s (stk s i)[l] = i ∧ partL s i = (stk s i)[l] := by
  obtain ⟨h1, h2⟩ := stk_ok hd i (by omega)
  have hb := get_bt s i hi
  have hu := hAt_down s i hi (by omega)
  have h0 := (hAt_fit hd (i + 1) (by omega)).1
  obtain ⟨l, hl⟩ : ∃ l, (stk s i).length = l + 1 := ⟨(stk s i).length - 1, by omega⟩
  obtain ⟨a, b, c, d⟩ := h2 l (by omega)
  refine ⟨l, by omega, hl, a, ?_, ?_⟩
  · unfold partL
    rw [if_pos b]
    have := fw_to hd (p := (stk s i)[l]) hi e (by omega) (fun q q1 q2 => by have := d q q1 q2; omega) (i - (stk s i)[l]) (stk s i)[l] (by omega) (Nat.le_refl _)
    rw [Int.sub_self] at this
    exact this
  · unfold partL
    rw [if_neg e]
    have := bk_to hd (p := (stk s i)[l]) hi a (by omega) (fun q q1 q2 => by have := d q q1 q2; omega) i (by omega) (Nat.le_refl _)
    rw [Int.sub_self] at this
    exact this

def upd (f : Nat → Int) (k : Nat) (y : Int) : Nat → Int := fun q => if q = k then y else f q
theorem upd_at (f : Nat → Int) (k : Nat) (y : Int) : upd f k y k = y := if_pos rfl
theorem upd_ne (f : Nat → Int) {k q : Nat} (y : Int) (h : q ≠ k) : upd f k y q = f q := if_neg h
/-- What the memory of partnersOf holds behind the first i letters. -/
def Mem (s : ByteArray) (i : Nat) (f : Nat → Int) : Prop :=
  (∀ (j : Nat) (h : j < (stk s i).length), f (s.size + j) = ((stk s i)[j] : Int)) ∧ ∀ q, q < i → q ∉ stk s i → f q = partL s q
theorem Mem.up {s : ByteArray} {i : Nat} {f : Nat → Int} (h : Mem s i f) (hi : i < s.size) (e : bt s i = 117) : Mem s (i + 1) (upd f (s.size + (stk s i).length) i) := by
  obtain ⟨h1, h2⟩ := h
  unfold Mem
  rw [stk_up e]
  refine ⟨fun j hj => ?_, fun q hq hn => ?_⟩
  · rw [List.length_append, List.length_singleton] at hj
    by_cases hjl : j < (stk s i).length
    · rw [upd_ne _ _ (by omega), List.getElem_append_left hjl, h1 j hjl]
    · obtain rfl : j = (stk s i).length := by omega
      have e2 : (stk s i ++ [i])[(stk s i).length]'(by simp) = i := by simp
      rw [e2, upd_at]
  · simp only [List.mem_append, List.mem_singleton, not_or] at hn
    rw [upd_ne _ _ (by omega)]
    exact h2 q (by omega) hn.1
theorem Mem.down {s : ByteArray} {i l : Nat} {f : Nat → Int} (h : Mem s i f) (hi : i < s.size) (e : bt s i ≠ 117) (hl : l < (stk s i).length) (hll : (stk s i).length = l + 1) (hp : (stk s i)[l] < i)
    (p1 : partL s (stk s i)[l] = i) (p2 : partL s i = (stk s i)[l]) : Mem s (i + 1) (upd (upd f i (stk s i)[l]) (stk s i)[l] i) := by
  obtain ⟨h1, h2⟩ := h
  unfold Mem
  rw [stk_down e]
  refine ⟨fun j hj => ?_, fun q hq hn => ?_⟩
  · rw [List.length_dropLast] at hj
    rw [upd_ne _ _ (by omega), upd_ne _ _ (by omega), List.getElem_dropLast, h1 j (by omega)]
  · by_cases ep : q = (stk s i)[l]
    · subst ep; rw [upd_at, p1]
    · rw [upd_ne _ _ ep]
      by_cases ei : q = i
      · subst ei; rw [upd_at, p2]
      · rw [upd_ne _ _ ei]
        refine h2 q (by omega) fun hm => hn ?_
        obtain ⟨j, hj, hjq⟩ := List.mem_iff_getElem.1 hm
        by_cases hjl : j = l
        · subst hjl; exact absurd hjq.symm ep
        · refine List.mem_iff_getElem.2 ⟨j, by rw [List.length_dropLast]; omega, ?_⟩
          rw [List.getElem_dropLast]; exact hjq
theorem Mem.start (s : ByteArray) (f : Nat → Int) : Mem s 0 f := ⟨fun j h => by simp [stk] at h, fun q h => by omega⟩
theorem Mem.stop {s : ByteArray} {f : Nat → Int} (hd : dyck s = true) (h : Mem s s.size f) (q : Nat) (hq : q < s.size) : f q = partL s q := by
  refine h.2 q hq fun hm => ?_
  obtain ⟨h1, -⟩ := stk_ok hd s.size (Nat.le_refl _)
  obtain ⟨k, hk1, hk2, hk3⟩ := hAt_path hd s.size (Nat.le_refl _)
  have hz := df_low _ _ hk3
  rw [rest_end s s.size (Nat.le_refl _)] at hz
  have : (stk s s.size).length = 0 := by simp at hz; omega
  rw [List.eq_nil_of_length_eq_zero this] at hm
  simp at hm
/-- There is room for one letter u more. -/
theorem stk_room {s : ByteArray} (hd : dyck s = true) {i : Nat} (hi : i < s.size) (e : bt s i = 117) : 2 * ((stk s i).length + 1) ≤ s.size ∧ (stk s i).length ≤ 8 := by
  obtain ⟨h1, -⟩ := stk_ok hd (i + 1) (by omega)
  rw [stk_up e, List.length_append, List.length_singleton] at h1
  obtain ⟨k, hk1, hk2, hk3⟩ := hAt_path hd (i + 1) (by omega)
  have hz := df_low _ _ hk3
  have h16 := dyck_size hd
  have : (rest s (i + 1)).length = s.size - (i + 1) := by unfold rest; simp
  omega

end Go.Proofs.Ytcckpodpgenapaa
