/- Plain words on chapter 28: balanced words, turned words, good shifts. -/
import Derived.Test.YtpggglcjocnjlaaGreatStrB
namespace Go.Proofs.YtpggglcjocnjlaaGreat
open Go.ChangeShapes Go.WideShapes Go.ChangeAt Go.RowKit
open Go.PlainAid (bt bt_nonneg bt_le get_bt bt_end)
set_option linter.unusedVariables false

/-- Letters u and d only. -/
def udA : List UInt8 → Bool
  | [] => true
  | c :: l => decide (c.toNat = 117 ∨ c.toNat = 100) && udA l
/-- The height at the end. -/
def smA : List UInt8 → Int
  | [] => 0
  | c :: l => (if c.toNat = 117 then 1 else -1) + smA l
theorem udA_up {c : UInt8} (l : List UInt8) (h : c.toNat = 117 ∨ c.toNat = 100) : udA (c :: l) = udA l := by rw [udA, decide_eq_true h]; rfl
theorem udA_no {c : UInt8} (l : List UInt8) (h : ¬ (c.toNat = 117 ∨ c.toNat = 100)) : udA (c :: l) = false := by rw [udA, decide_eq_false h]; rfl
theorem smA_up {c : UInt8} (l : List UInt8) (h : c.toNat = 117) : smA (c :: l) = 1 + smA l := by rw [smA, if_pos h]
theorem smA_down {c : UInt8} (l : List UInt8) (h : c.toNat ≠ 117) : smA (c :: l) = -1 + smA l := by rw [smA, if_neg h]
theorem udA_app : ∀ a b : List UInt8, udA (a ++ b) = (udA a && udA b)
  | [], b => rfl
  | c :: a, b => by rw [List.cons_append, udA, udA, udA_app a b, Bool.and_assoc]
theorem smA_app : ∀ a b : List UInt8, smA (a ++ b) = smA a + smA b
  | [], b => by rw [List.nil_append, smA]; omega
  | c :: a, b => by rw [List.cons_append, smA, smA, smA_app a b]; omega
theorem smA_take_add (l : List UInt8) (k j : Nat) : smA (l.take (k + j)) = smA (l.take k) + smA ((l.drop k).take j) := by
  rw [List.take_add, smA_app]
theorem udA_take {l : List UInt8} (h : udA l = true) (k : Nat) : udA (l.take k) = true := by
  have := udA_app (l.take k) (l.drop k)
  rw [List.take_append_drop, h] at this
  rcases hb : udA (l.take k) with _ | _
  · rw [hb] at this; simp at this
  · rfl
theorem udA_drop {l : List UInt8} (h : udA l = true) (k : Nat) : udA (l.drop k) = true := by
  have := udA_app (l.take k) (l.drop k)
  rw [List.take_append_drop, h] at this
  rcases hb : udA (l.drop k) with _ | _
  · rw [hb] at this; simp at this
  · rfl
/-- A word of letters u and d whose heights are never negative, and 0 at the end. -/
theorem df_of : ∀ (l : List UInt8) (h : Nat), udA l = true → (∀ i, i ≤ l.length → 0 ≤ (h : Int) + smA (l.take i)) → (h : Int) + smA l = 0 → dyckFrom h l = true := by
  intro l
  induction l with
  | nil => intro h _ _ h2; rw [df_nil, beq_iff_eq]; rw [smA] at h2; omega
  | cons c l ih =>
    intro h hu hp h2
    have hc : c.toNat = 117 ∨ c.toNat = 100 := by
      by_cases hc : c.toNat = 117 ∨ c.toNat = 100
      · exact hc
      · rw [udA_no l hc] at hu; cases hu
    rw [udA_up l hc] at hu
    rcases hc with hc | hc
    · rw [df_up _ _ _ hc]
      rw [smA_up l hc] at h2
      refine ih _ hu (fun i hi => ?_) (by omega)
      have := hp (i + 1) (by simpa using hi)
      rw [List.take_succ_cons, smA_up _ hc] at this
      omega
    · have h1 := hp 1 (by simp)
      rw [List.take_succ_cons, smA_down _ (by omega)] at h1
      simp only [List.take_zero, smA] at h1
      obtain ⟨k, rfl⟩ : ∃ k, h = k + 1 := ⟨h - 1, by omega⟩
      rw [df_down _ _ _ hc]
      rw [smA_down l (by omega)] at h2
      refine ih _ hu (fun i hi => ?_) (by omega)
      have := hp (i + 1) (by simpa using hi)
      rw [List.take_succ_cons, smA_down _ (by omega)] at this
      omega
theorem least_at (f : Nat → Int) : ∀ n, ∃ k, k ≤ n ∧ (∀ i, i ≤ n → f k ≤ f i) ∧ ∀ i, i < k → f k < f i := by
  intro n
  induction n with
  | zero => exact ⟨0, Nat.le_refl _, fun i hi => by obtain rfl : i = 0 := by omega
                                                    exact Int.le_refl _, fun i hi => absurd hi (Nat.not_lt_zero _)⟩
  | succ n ih =>
    obtain ⟨k, h1, h2, h3⟩ := ih
    by_cases h : f (n + 1) < f k
    · refine ⟨n + 1, Nat.le_refl _, fun i hi => ?_, fun i hi => ?_⟩
      · by_cases e : i = n + 1
        · subst e; exact Int.le_refl _
        · have := h2 i (by omega); omega
      · have := h2 i (by omega); omega
    · refine ⟨k, by omega, fun i hi => ?_, h3⟩
      by_cases e : i = n + 1
      · subst e; omega
      · exact h2 i (by omega)
/-- A word turned by k letters. -/
def rtL (l : List UInt8) (k : Nat) : List UInt8 := l.drop k ++ l.take k
theorem rtL_len (l : List UInt8) (k : Nat) : (rtL l k).length = l.length := by
  unfold rtL; rw [List.length_append, List.length_drop, List.length_take]; omega
/-- Each balanced word has a shift that leads to a path and one more d. -/
theorem good_ex (l : List UInt8) (hu : udA l = true) (hs : smA l = -1) : ∃ k, k < l.length ∧ dyckFrom 0 ((rtL l k).take (l.length - 1)) = true ∧ ((rtL l k).getD (l.length - 1) 0).toNat = 100 := by
  have hn : 0 < l.length := by
    cases l with
    | nil => rw [smA] at hs; omega
    | cons c l => simp
  obtain ⟨k, h1, h2, h3⟩ := least_at (fun i => smA (l.take i)) l.length
  have e0 : smA (l.take 0) = 0 := rfl
  have en : smA (l.take l.length) = -1 := by rw [List.take_length]; exact hs
  have k1 : k ≠ 0 := by rintro rfl; have := h2 l.length (Nat.le_refl _); simp only [e0, en] at this; omega
  have hpre : ∀ j, j < l.length → 0 ≤ smA ((rtL l k).take j) := by
    intro j hj
    unfold rtL
    rw [List.take_append, smA_app]
    have ht := smA_take_add l k j
    by_cases hjk : k + j ≤ l.length
    · have z : j - (l.drop k).length = 0 := by rw [List.length_drop]; omega
      rw [z, List.take_zero]
      have := h2 (k + j) hjk
      have e : smA [] = 0 := rfl
      omega
    · have z : (l.drop k).take j = l.drop k := List.take_of_length_le (by rw [List.length_drop]; omega)
      rw [z] at ht ⊢
      rw [List.take_of_length_le (i := k + j) (by omega), hs] at ht
      have z2 : j - (l.drop k).length = j - (l.length - k) := by rw [List.length_drop]
      rw [z2, List.take_take, Nat.min_eq_left (by omega)]
      have := h3 (j - (l.length - k)) (by omega)
      omega
  have hud : udA (rtL l k) = true := by unfold rtL; rw [udA_app, udA_take hu, udA_drop hu]; rfl
  have hsum : smA (rtL l k) = -1 := by
    have := smA_app (l.take k) (l.drop k)
    rw [List.take_append_drop, hs] at this
    unfold rtL; rw [smA_app]; omega
  have hlen := rtL_len l k
  have main : dyckFrom 0 ((rtL l k).take (l.length - 1)) = true ∧ ((rtL l k).getD (l.length - 1) 0).toNat = 100 := by
    generalize rtL l k = r at *
    have hr := List.take_append_drop (l.length - 1) r
    have hd : r.drop (l.length - 1) = [r.getD (l.length - 1) 0] := by
      rw [List.drop_eq_getElem_cons (by omega), List.getD_eq_getElem?_getD, List.getElem?_eq_getElem (by omega)]
      rw [List.drop_of_length_le (by omega)]; rfl
    have hsm := smA_app (r.take (l.length - 1)) (r.drop (l.length - 1))
    have hua := udA_app (r.take (l.length - 1)) (r.drop (l.length - 1))
    rw [hr, hd] at hsm hua
    have p1 := hpre (l.length - 1) (by omega)
    generalize r.getD (l.length - 1) 0 = c at *
    rw [hud] at hua
    have hc : c.toNat = 117 ∨ c.toNat = 100 := by
      by_cases hc : c.toNat = 117 ∨ c.toNat = 100
      · exact hc
      · rw [udA_no [] hc] at hua; simp at hua
    have hc2 : c.toNat ≠ 117 := by
      intro h; rw [smA_up [] h] at hsm
      have e : smA [] = 0 := rfl
      omega
    rw [smA_down [] hc2] at hsm
    have e : smA [] = 0 := rfl
    refine ⟨df_of _ 0 (udA_take hud _) (fun i hi => ?_) (by omega), by omega⟩
    rw [List.length_take] at hi
    rw [List.take_take, Nat.min_eq_left (by omega)]
    have := hpre i (by omega)
    omega
  by_cases hk : k < l.length
  · exact ⟨k, hk, main⟩
  · obtain rfl : k = l.length := by omega
    refine ⟨0, hn, ?_⟩
    have e : rtL l 0 = rtL l l.length := by unfold rtL; simp
    rw [e]; exact main

/-- A word with its first k letters at its end. -/
def rtS (s : ByteArray) (k : Nat) : ByteArray := s.extract k s.size ++ s.extract 0 k
theorem rtS_list (s : ByteArray) (k : Nat) : (rtS s k).data.toList = rtL s.data.toList k := by
  unfold rtS rtL
  rw [ByteArray.data_append, Array.toList_append, ByteArray.data_extract, ByteArray.data_extract, Array.toList_extract, Array.toList_extract, List.extract_eq_take_drop, List.extract_eq_take_drop, List.drop_zero, Nat.sub_zero]
  congr 1
  exact List.take_of_length_le (by rw [List.length_drop]; simp)
theorem rtS_size (s : ByteArray) (k : Nat) (h : k ≤ s.size) : (rtS s k).size = s.size := by
  unfold rtS; rw [ByteArray.size_append, ByteArray.size_extract, ByteArray.size_extract]; omega
/-- A path and one more d. -/
def gdW (x : ByteArray) : Bool := decide (0 < x.size) && (dyck (x.extract 0 (x.size - 1)) && decide (bt x (x.size - 1) = 100))
def balB (s : ByteArray) : Bool := udA s.data.toList && (decide (smA s.data.toList = -1) && decide (s.size ≤ 17))
theorem bal_parts {s : ByteArray} (h : balB s = true) : udA s.data.toList = true ∧ smA s.data.toList = -1 ∧ s.size ≤ 17 := by
  unfold balB at h
  simpa using h
theorem bal_size {s : ByteArray} (h : balB s = true) : 1 ≤ s.size := by
  obtain ⟨-, h2, -⟩ := bal_parts h
  rcases Nat.eq_zero_or_pos s.size with h0 | h0
  · have : s.data.toList = [] := List.eq_nil_of_length_eq_zero (by simpa using h0)
    rw [this, smA] at h2; omega
  · exact h0
theorem good_exS {s : ByteArray} (h : balB s = true) : ∃ k, k < s.size ∧ gdW (rtS s k) = true := by
  obtain ⟨h1, h2, h3⟩ := bal_parts h
  have hl : s.data.toList.length = s.size := by simp
  obtain ⟨k, hk, hd, hc⟩ := good_ex _ h1 h2
  rw [hl] at hk hd hc
  refine ⟨k, hk, ?_⟩
  have hz := rtS_size s k (by omega)
  unfold gdW
  rw [hz, decide_eq_true (show 0 < s.size by omega), Bool.true_and, Bool.and_eq_true]
  constructor
  · rw [dyck_short (by rw [ByteArray.size_extract]; omega), ByteArray.data_extract, Array.toList_extract, List.extract_eq_take_drop, rtS_list]
    simpa using hd
  · rw [decide_eq_true_eq, bt_at_or, rtS_list, List.getD_eq_getElem?_getD, List.getElem?_map]
    rw [List.getD_eq_getElem?_getD] at hc
    rw [List.getElem?_eq_getElem (by rw [rtL_len, hl]; omega)] at hc ⊢
    simp at hc ⊢
    omega
/-- The good shifts below n. -/
def gsL (s : ByteArray) (n : Nat) : List Int := ((List.range n).filter fun k => gdW (rtS s k)).map fun (k : Nat) => (k : Int)
theorem gsL_yes (s : ByteArray) (n : Nat) (h : gdW (rtS s n) = true) : gsL s (n + 1) = gsL s n ++ [(n : Int)] := by
  unfold gsL; rw [List.range_succ, List.filter_append, List.map_append]; simp [h]
theorem gsL_no (s : ByteArray) (n : Nat) (h : gdW (rtS s n) = false) : gsL s (n + 1) = gsL s n := by
  unfold gsL; rw [List.range_succ, List.filter_append, List.map_append]; simp [h]
theorem gsL_len (s : ByteArray) (n : Nat) : (gsL s n).length ≤ n := by
  unfold gsL; rw [List.length_map]; have := List.length_filter_le (fun k => gdW (rtS s k)) (List.range n); simpa using this
theorem gsL_nil {s : ByteArray} {n : Nat} (h : ∀ k, k < n → gdW (rtS s k) = false) : gsL s n = [] := by
  induction n with
  | zero => rfl
  | succ n ih => rw [gsL_no s n (h n (by omega)), ih fun k hk => h k (by omega)]
theorem gsL_head {s : ByteArray} {k : Nat} (hk : gdW (rtS s k) = true) (h : ∀ j, j < k → gdW (rtS s j) = false) : ∀ n, k < n → (gsL s n).getD 0 0 = (k : Int) ∧ 0 < (gsL s n).length
  | 0, hn => absurd hn (Nat.not_lt_zero _)
  | n + 1, hn => by
    by_cases e : k = n
    · subst e
      rw [gsL_yes s k hk, gsL_nil h]; simp
    · obtain ⟨i1, i2⟩ := gsL_head hk h n (by omega)
      rcases hb : gdW (rtS s n) with _ | _
      · rw [gsL_no s n hb]; exact ⟨i1, i2⟩
      · rw [gsL_yes s n hb]
        refine ⟨?_, by simp⟩
        rw [List.getD_eq_getElem?_getD, List.getElem?_append_left i2, ← List.getD_eq_getElem?_getD]
        exact i1
/-- The least good shift of a balanced word. -/
theorem first_good {s : ByteArray} (h : balB s = true) : ∃ k, k < s.size ∧ gdW (rtS s k) = true ∧ ∀ j, j < k → gdW (rtS s j) = false := by
  obtain ⟨k, hk, hg⟩ := good_exS h
  induction k using Nat.strongRecOn with
  | _ k ih =>
    by_cases hj : ∃ j, j < k ∧ gdW (rtS s j) = true
    · obtain ⟨j, hj1, hj2⟩ := hj
      exact ih j hj1 (by omega) hj2
    · refine ⟨k, hk, hg, fun j hj1 => ?_⟩
      rcases hb : gdW (rtS s j) with _ | _
      · rfl
      · exact absurd ⟨j, hj1, hb⟩ hj
/-- What the functions of chapter 28 answer. -/
def gsP (s : ByteArray) : Int := if balB s = true then (gsL s s.size).getD 0 0 else 0
def cgP (s : ByteArray) : Int := if balB s = true then ((gsL s s.size).length : Int) else -1
def dcP (s : ByteArray) : ByteArray := if balB s = true then (rtS s (gsP s).toNat).extract 0 (s.size - 1) else ⟨#[]⟩
def swOk (s : ByteArray) (k : Int) : Bool := decide (s.size ≤ 17 ∧ 0 ≤ k ∧ (k < (s.size : Int) ∨ k = 0))
def swP (s : ByteArray) (k : Int) : ByteArray := if swOk s k = true then rtS s k.toNat else ⟨#[]⟩
def coOk (s : ByteArray) (k : Int) : Bool := dyck s && swOk (s ++ ⟨#[100]⟩) k
def coP (s : ByteArray) (k : Int) : ByteArray := if dyck s = true then swP (s ++ ⟨#[100]⟩) k else ⟨#[]⟩

end Go.Proofs.YtpggglcjocnjlaaGreat
