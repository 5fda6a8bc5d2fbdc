/- Merged by program out of: Fact28 Fact18C Spec2F PlainG Impl18A Spec3B Spec3C Spec3D PlainN Rep PlainC Impl2C. -/
import Derived.BigQuiet
import Derived.BigRegion
import Derived.Deep.RegionHeld3
import Derived.Lib.MinMax
import Derived.Laws.ResultCell
import Derived.Lib.RepeatB
import Derived.Test.YtbdnelijfbnfnaaShelfB
import Derived.Deep.LoopGhost
import Derived.Laws.Cover1
import Derived.Lib.Hide
import Derived.Test.YtbdnelijfbnfnaaKA
import Derived.Test.YtbdnelijfbnfnaaKB
section
namespace Go.Proofs.Ytbdnelijfbnfnaa
open Go.ChangeShapes Go.WideShapes Go.ChangeAt Go.RowKit
open Go.PlainAid (bt bt_nonneg bt_le get_bt bt_end)
set_option linter.unusedVariables false

/-- Letters u and d only. -/
def udA : List UInt8 → Bool
  | [] => true
  | c :: l => decide (c.toNat = 117 ∨ c.toNat = 100) && udA l
/-- The height at the end. -/
def smA : List UInt8 → Int
  | [] => 0
  | c :: l => (if c.toNat = 117 then 1 else -1) + smA l
theorem udA_up {c : UInt8} (l : List UInt8) (h : c.toNat = 117 ∨ c.toNat = 100) : udA (c :: l) = udA l := by rw [udA, decide_eq_true h]; rfl
theorem udA_no {c : UInt8} (l : List UInt8) (h : ¬ (c.toNat = 117 ∨ c.toNat = 100)) : udA (c :: l) = false := by rw [udA, decide_eq_false h]; rfl
theorem smA_up {c : UInt8} (l : List UInt8) (h : c.toNat = 117) : smA (c :: l) = 1 + smA l := by rw [smA, if_pos h]
theorem smA_down {c : UInt8} (l : List UInt8) (h : c.toNat ≠ 117) : smA (c :: l) = -1 + smA l := by rw [smA, if_neg h]
theorem udA_app : ∀ a b : List UInt8, udA (a ++ b) = (udA a && udA b)
  | [], b => rfl
  | c :: a, b => by rw [List.cons_append, udA, udA, udA_app a b, Bool.and_assoc]
theorem smA_app : ∀ a b : List UInt8, smA (a ++ b) = smA a + smA b
  | [], b => by rw [List.nil_append, smA]; omega
  | c :: a, b => by rw [List.cons_append, smA, smA, smA_app a b]; omega
theorem smA_take_add (l : List UInt8) (k j : Nat) : smA (l.take (k + j)) = smA (l.take k) + smA ((l.drop k).take j) := by
  rw [List.take_add, smA_app]
theorem udA_take {l : List UInt8} (h : udA l = true) (k : Nat) : udA (l.take k) = true := by
  have := udA_app (l.take k) (l.drop k)
  rw [List.take_append_drop, h] at this
  rcases hb : udA (l.take k) with _ | _
  · rw [hb] at this; simp at this
  · rfl
theorem udA_drop {l : List UInt8} (h : udA l = true) (k : Nat) : udA (l.drop k) = true := by
  have := udA_app (l.take k) (l.drop k)
  rw [List.take_append_drop, h] at this
  rcases hb : udA (l.drop k) with _ | _
  · rw [hb] at this; simp at this
  · rfl
/-- A word of letters u and d whose heights are never negative, and 0 at the end. -/
theorem df_of : ∀ (l : List UInt8) (h : Nat), udA l = true → (∀ i, i ≤ l.length → 0 ≤ (h : Int) + smA (l.take i)) → (h : Int) + smA l = 0 → dyckFrom h l = true := by
  intro l
  induction l with
  | nil => intro h _ _ h2; rw [df_nil, beq_iff_eq]; rw [smA] at h2; omega
  | cons c l ih =>
    intro h hu hp h2
    have hc : c.toNat = 117 ∨ c.toNat = 100 := by
      by_cases hc : c.toNat = 117 ∨ c.toNat = 100
      · exact hc
      · rw [udA_no l hc] at hu; cases hu
    rw [udA_up l hc] at hu
    rcases hc with hc | hc
    · rw [df_up _ _ _ hc]
      rw [smA_up l hc] at h2
      refine ih _ hu (fun i hi => ?_) (by omega)
      have := hp (i + 1) (by simpa using hi)
      rw [List.take_succ_cons, smA_up _ hc] at this
      omega
    · have h1 := hp 1 (by simp)
      rw [List.take_succ_cons, smA_down _ (by omega)] at h1
      simp only [List.take_zero, smA] at h1
      obtain ⟨k, rfl⟩ : ∃ k, h = k + 1 := ⟨h - 1, by omega⟩
      rw [df_down _ _ _ hc]
      rw [smA_down l (by omega)] at h2
      refine ih _ hu (fun i hi => ?_) (by omega)
      have := hp (i + 1) (by simpa using hi)
      rw [List.take_succ_cons, smA_down _ (by omega)] at this
      omega
theorem least_at (f : Nat → Int) : ∀ n, ∃ k, k ≤ n ∧ (∀ i, i ≤ n → f k ≤ f i) ∧ ∀ i, i < k → f k < f i := by
  intro n
  induction n with
  | zero => exact ⟨0, Nat.le_refl _, fun i hi => by obtain rfl : i = 0 := by omega
                                                    exact Int.le_refl _, fun i hi => absurd hi (Nat.not_lt_zero _)⟩
  | succ n ih =>
    obtain ⟨k, h1, h2, h3⟩ := ih
    by_cases h : f (n + 1) < f k
    · refine ⟨n + 1, Nat.le_refl _, fun i hi => ?_, fun i hi => ?_⟩
      · by_cases e : i = n + 1
        · subst e; exact Int.le_refl _
        · have := h2 i (by omega); omega
      · have := h2 i (by omega); omega
    · refine ⟨k, by omega, fun i hi => ?_, h3⟩
      by_cases e : i = n + 1
      · subst e; omega
      · exact h2 i (by omega)
/-- A word turned by k letters. -/
def rtL (l : List UInt8) (k : Nat) : List UInt8 := l.drop k ++ l.take k
theorem rtL_len (l : List UInt8) (k : Nat) : (rtL l k).length = l.length := by
  unfold rtL; rw [List.length_append, List.length_drop, List.length_take]; omega
/-- Each balanced word has a shift that leads to a path and one more d. -/
theorem good_ex (l : List UInt8) (hu : udA l = true) (hs : smA l = -1) : ∃ k, k < l.length ∧ dyckFrom 0 ((rtL l k).take (l.length - 1)) = true ∧ ((rtL l k).getD (l.length - 1) 0).toNat = 100 := by
  have hn : 0 < l.length := by
    cases l with
    | nil => rw [smA] at hs; omega
    | cons c l => simp
  obtain ⟨k, h1, h2, h3⟩ := least_at (fun i => smA (l.take i)) l.length
  have e0 : smA (l.take 0) = 0 := rfl
  have en : smA (l.take l.length) = -1 := by rw [List.take_length]; exact hs
  have k1 : k ≠ 0 := by rintro rfl; have := h2 l.length (Nat.le_refl _); simp only [e0, en] at this; omega
  have hpre : ∀ j, j < l.length → 0 ≤ smA ((rtL l k).take j) := by
    intro j hj
    unfold rtL
    rw [List.take_append, smA_app]
    have ht := smA_take_add l k j
    by_cases hjk : k + j ≤ l.length
    · have z : j - (l.drop k).length = 0 := by rw [List.length_drop]; omega
      rw [z, List.take_zero]
      have := h2 (k + j) hjk
      have e : smA [] = 0 := rfl
      omega
    · have z : (l.drop k).take j = l.drop k := List.take_of_length_le (by rw [List.length_drop]; omega)
      rw [z] at ht ⊢
      rw [List.take_of_length_le (i := k + j) (by omega), hs] at ht
      have z2 : j - (l.drop k).length = j - (l.length - k) := by rw [List.length_drop]
      rw [z2, List.take_take, Nat.min_eq_left (by omega)]
      have := h3 (j - (l.length - k)) (by omega)
      omega
  have hud : udA (rtL l k) = true := by unfold rtL; rw [udA_app, udA_take hu, udA_drop hu]; rfl
  have hsum : smA (rtL l k) = -1 := by
    have := smA_app (l.take k) (l.drop k)
    rw [List.take_append_drop, hs] at this
    unfold rtL; rw [smA_app]; omega
  have hlen := rtL_len l k
  have main : dyckFrom 0 ((rtL l k).take (l.length - 1)) = true ∧ ((rtL l k).getD (l.length - 1) 0).toNat = 100 := by
    generalize rtL l k = r at *
    have hr := List.take_append_drop (l.length - 1) r
    have hd : r.drop (l.length - 1) = [r.getD (l.length - 1) 0] := by
      rw [List.drop_eq_getElem_cons (by omega), List.getD_eq_getElem?_getD, List.getElem?_eq_getElem (by omega)]
      rw [List.drop_of_length_le (by omega)]; rfl
    have hsm := smA_app (r.take (l.length - 1)) (r.drop (l.length - 1))
    have hua := udA_app (r.take (l.length - 1)) (r.drop (l.length - 1))
    rw [hr, hd] at hsm hua
    have p1 := hpre (l.length - 1) (by omega)
    generalize r.getD (l.length - 1) 0 = c at *
    rw [hud] at hua
    have hc : c.toNat = 117 ∨ c.toNat = 100 := by
      by_cases hc : c.toNat = 117 ∨ c.toNat = 100
      · exact hc
      · rw [udA_no [] hc] at hua; simp at hua
    have hc2 : c.toNat ≠ 117 := by
      intro h; rw [smA_up [] h] at hsm
      have e : smA [] = 0 := rfl
      omega
    rw [smA_down [] hc2] at hsm
    have e : smA [] = 0 := rfl
    refine ⟨df_of _ 0 (udA_take hud _) (fun i hi => ?_) (by omega), by omega⟩
    rw [List.length_take] at hi
    rw [List.take_take, Nat.min_eq_left (by omega)]
    have := hpre i (by omega)
    omega
  by_cases hk : k < l.length
  · exact ⟨k, hk, main⟩
  · obtain rfl : k = l.length := by omega
    refine ⟨0, hn, ?_⟩
    have e : rtL l 0 = rtL l l.length := by unfold rtL; simp
    rw [e]; exact main

/-- A word with its first k letters at its end. -/
def rtS (s : ByteArray) (k : Nat) : ByteArray := s.extract k s.size ++ s.extract 0 k
theorem rtS_list (s : ByteArray) (k : Nat) : (rtS s k).data.toList = rtL s.data.toList k := by
  unfold rtS rtL
  rw [ByteArray.data_append, Array.toList_append, ByteArray.data_extract, ByteArray.data_extract, Array.toList_extract, Array.toList_extract, List.extract_eq_take_drop, List.extract_eq_take_drop, List.drop_zero, Nat.sub_zero]
  congr 1
  exact List.take_of_length_le (by rw [List.length_drop]; simp)
theorem rtS_size (s : ByteArray) (k : Nat) (h : k ≤ s.size) : (rtS s k).size = s.size := by
  unfold rtS; rw [ByteArray.size_append, ByteArray.size_extract, ByteArray.size_extract]; omega
/-- A path and one more d. -/
def gdW (x : ByteArray) : Bool := decide (0 < x.size) && (dyck (x.extract 0 (x.size - 1)) && decide (bt x (x.size - 1) = 100))
def balB (s : ByteArray) : Bool := udA s.data.toList && (decide (smA s.data.toList = -1) && decide (s.size ≤ 17))
theorem bal_parts {s : ByteArray} (h : balB s = true) : udA s.data.toList = true ∧ smA s.data.toList = -1 ∧ s.size ≤ 17 := by
  unfold balB at h
  simpa using h
theorem bal_size {s : ByteArray} (h : balB s = true) : 1 ≤ s.size := by
  obtain ⟨-, h2, -⟩ := bal_parts h
  rcases Nat.eq_zero_or_pos s.size with h0 | h0
  · have : s.data.toList = [] := List.eq_nil_of_length_eq_zero (by simpa using h0)
    rw [this, smA] at h2; omega
  · exact h0
theorem good_exS {s : ByteArray} (h : balB s = true) : ∃ k, k < s.size ∧ gdW (rtS s k) = true := by
  obtain ⟨h1, h2, h3⟩ := bal_parts h
  have hl : s.data.toList.length = s.size := by simp
  obtain ⟨k, hk, hd, hc⟩ := good_ex _ h1 h2
  rw [hl] at hk hd hc
  refine ⟨k, hk, ?_⟩
  have hz := rtS_size s k (by omega)
  unfold gdW
  rw [hz, decide_eq_true (show 0 < s.size by omega), Bool.true_and, Bool.and_eq_true]
  constructor
  · rw [dyck_short (by rw [ByteArray.size_extract]; omega), ByteArray.data_extract, Array.toList_extract, List.extract_eq_take_drop, rtS_list]
    simpa using hd
  · rw [decide_eq_true_eq, bt_at_or, rtS_list, List.getD_eq_getElem?_getD, List.getElem?_map]
    rw [List.getD_eq_getElem?_getD] at hc
    rw [List.getElem?_eq_getElem (by rw [rtL_len, hl]; omega)] at hc ⊢
    simp at hc ⊢
    omega
/-- The good shifts below n. -/
def gsL (s : ByteArray) (n : Nat) : List Int := ((List.range n).filter fun k => gdW (rtS s k)).map fun (k : Nat) => (k : Int)
theorem gsL_yes (s : ByteArray) (n : Nat) (h : gdW (rtS s n) = true) : gsL s (n + 1) = gsL s n ++ [(n : Int)] := by
  unfold gsL; rw [List.range_succ, List.filter_append, List.map_append]; simp [h]
theorem gsL_no (s : ByteArray) (n : Nat) (h : gdW (rtS s n) = false) : gsL s (n + 1) = gsL s n := by
  unfold gsL; rw [List.range_succ, List.filter_append, List.map_append]; simp [h]
theorem gsL_len (s : ByteArray) (n : Nat) : (gsL s n).length ≤ n := by
  unfold gsL; rw [List.length_map]; have := List.length_filter_le (fun k => gdW (rtS s k)) (List.range n); simpa using this
theorem gsL_nil {s : ByteArray} {n : Nat} (h : ∀ k, k < n → gdW (rtS s k) = false) : gsL s n = [] := by
  induction n with
  | zero => rfl
  | succ n ih => rw [gsL_no s n (h n (by omega)), ih fun k hk => h k (by omega)]
theorem gsL_head {s : ByteArray} {k : Nat} (hk : gdW (rtS s k) = true) (h : ∀ j, j < k → gdW (rtS s j) = false) : ∀ n, k < n → (gsL s n).getD 0 0 = (k : Int) ∧ 0 < (gsL s n).length
  | 0, hn => absurd hn (Nat.not_lt_zero _)
  | n + 1, hn => by
    by_cases e : k = n
    · subst e
      rw [gsL_yes s k hk, gsL_nil h]; simp
    · obtain ⟨i1, i2⟩ := gsL_head hk h n (by omega)
      rcases hb : gdW (rtS s n) with _ | _
      · rw [gsL_no s n hb]; exact ⟨i1, i2⟩
      · rw [gsL_yes s n hb]
        refine ⟨?_, by simp⟩
        rw [List.getD_eq_getElem?_getD, List.getElem?_append_left i2, ← List.getD_eq_getElem?_getD]
        exact i1
/-- The least good shift of a balanced word. -/
theorem first_good {s : ByteArray} (h : balB s = true) : ∃ k, k < s.size ∧ gdW (rtS s k) = true ∧ ∀ j, j < k → gdW (rtS s j) = false := by
  obtain ⟨k, hk, hg⟩ := good_exS h
  induction k using Nat.strongRecOn with
  | _ k ih =>
    by_cases hj : ∃ j, j < k ∧ gdW (rtS s j) = true
    · obtain ⟨j, hj1, hj2⟩ := hj
      exact ih j hj1 (by omega) hj2
    · refine ⟨k, hk, hg, fun j hj1 => ?_⟩
      rcases hb : gdW (rtS s j) with _ | _
      · rfl
      · exact absurd ⟨j, hj1, hb⟩ hj
/-- What the functions of chapter 28 answer. -/
def gsP (s : ByteArray) : Int := if balB s = true then (gsL s s.size).getD 0 0 else 0
def cgP (s : ByteArray) : Int := if balB s = true then ((gsL s s.size).length : Int) else -1
def dcP (s : ByteArray) : ByteArray := if balB s = true then (rtS s (gsP s).toNat).extract 0 (s.size - 1) else ⟨#[]⟩
def swOk (s : ByteArray) (k : Int) : Bool := decide (s.size ≤ 17 ∧ 0 ≤ k ∧ (k < (s.size : Int) ∨ k = 0))
def swP (s : ByteArray) (k : Int) : ByteArray := if swOk s k = true then rtS s k.toNat else ⟨#[]⟩
def coOk (s : ByteArray) (k : Int) : Bool := dyck s && swOk (s ++ ⟨#[100]⟩) k
def coP (s : ByteArray) (k : Int) : ByteArray := if dyck s = true then swP (s ++ ⟨#[100]⟩) k else ⟨#[]⟩

end Go.Proofs.Ytbdnelijfbnfnaa
end

section
namespace Go.Proofs.Ytbdnelijfbnfnaa
open Go.PlainAid (bt bt_nonneg bt_le get_bt bt_end)
set_option linter.unusedVariables false

/-- The word with the letters ahead of place k and at it turned. -/
def cvP (s : ByteArray) (k : Nat) : ByteArray := (s.extract 0 (k - 1) ++ ⟨#[117, 100]⟩) ++ s.extract (k + 1) s.size
def vale (s : ByteArray) (k : Nat) : Prop := 1 ≤ k ∧ bt s (k - 1) = 100 ∧ bt s k = 117
instance (s : ByteArray) (k : Nat) : Decidable (vale s k) := by unfold vale; infer_instance
/-- The covers by the valleys ahead of place k. -/
def cvL (s : ByteArray) : Nat → List ByteArray
  | 0 => []
  | k + 1 => if vale s k then cvL s k ++ [cvP s k] else cvL s k
theorem cvL_yes {s : ByteArray} {k : Nat} (h : vale s k) : cvL s (k + 1) = cvL s k ++ [cvP s k] := by rw [cvL, if_pos h]
theorem cvL_no {s : ByteArray} {k : Nat} (h : ¬ vale s k) : cvL s (k + 1) = cvL s k := by rw [cvL, if_neg h]
theorem cvL_le (s : ByteArray) : ∀ k, (cvL s k).length ≤ k
  | 0 => Nat.le_refl _
  | k + 1 => by
    have := cvL_le s k
    by_cases h : vale s k
    · rw [cvL_yes h, List.length_append, List.length_singleton]; omega
    · rw [cvL_no h]; omega
def covP (s : ByteArray) : List ByteArray := if dyck s = true then cvL s s.size else []
theorem cov_yes {s : ByteArray} (h : dyck s = true) : covP s = cvL s s.size := if_pos h
theorem cov_no {s : ByteArray} (h : dyck s = false) : covP s = [] := if_neg (by rw [h]; simp)
theorem cov_le (s : ByteArray) : (covP s).length ≤ 16 := by
  unfold covP
  split
  · rename_i h
    have := cvL_le s s.size
    have := dyck_size h
    omega
  · simp
/-- The places behind the valleys ahead of place k. -/
def vlL (s : ByteArray) : Nat → List Int
  | 0 => []
  | k + 1 => if vale s k then vlL s k ++ [(k : Int)] else vlL s k
theorem vlL_yes {s : ByteArray} {k : Nat} (h : vale s k) : vlL s (k + 1) = vlL s k ++ [(k : Int)] := by rw [vlL, if_pos h]
theorem vlL_no {s : ByteArray} {k : Nat} (h : ¬ vale s k) : vlL s (k + 1) = vlL s k := by rw [vlL, if_neg h]
theorem vlL_le (s : ByteArray) : ∀ k, (vlL s k).length ≤ k
  | 0 => Nat.le_refl _
  | k + 1 => by
    have := vlL_le s k
    by_cases h : vale s k
    · rw [vlL_yes h, List.length_append, List.length_singleton]; omega
    · rw [vlL_no h]; omega
theorem vlL_in (s : ByteArray) : ∀ k, ∀ y ∈ vlL s k, ∃ j : Nat, y = j ∧ 1 ≤ j ∧ j < k
  | 0, y, hy => by simp [vlL] at hy
  | k + 1, y, hy => by
    by_cases h : vale s k
    · rw [vlL_yes h, List.mem_append] at hy
      rcases hy with hy | hy
      · obtain ⟨j, e, h1, h2⟩ := vlL_in s k y hy
        exact ⟨j, e, h1, by omega⟩
      · simp at hy
        exact ⟨k, hy, h.1, by omega⟩
    · rw [vlL_no h] at hy
      obtain ⟨j, e, h1, h2⟩ := vlL_in s k y hy
      exact ⟨j, e, h1, by omega⟩
theorem cvL_map (s : ByteArray) : ∀ k, cvL s k = (vlL s k).map fun y => cvP s y.toNat
  | 0 => rfl
  | k + 1 => by
    by_cases h : vale s k
    · rw [cvL_yes h, vlL_yes h, List.map_append, cvL_map s k]; rfl
    · rw [cvL_no h, vlL_no h, cvL_map s k]
theorem two_at18 (s : ByteArray) (a : Nat) (h : a + 2 ≤ s.size) : ((s.extract a (a + 2)).toList == (⟨#[100, 117]⟩ : ByteArray).toList) = decide (bt s a = 100 ∧ bt s (a + 1) = 117) := by
  have hz : (s.extract a (a + 2)).size = 2 := by rw [ByteArray.size_extract]; omega
  have e0 := bt_ext s a (a + 2) 0 (by omega) (by omega)
  have e1 := bt_ext s a (a + 2) 1 (by omega) (by omega)
  have hz2 : (⟨#[100, 117]⟩ : ByteArray).size = 2 := rfl
  have f0 : bt ⟨#[100, 117]⟩ 0 = 100 := by rw [bt_at _ _ (by omega)]; rfl
  have f1 : bt ⟨#[100, 117]⟩ 1 = 117 := by rw [bt_at _ _ (by omega)]; rfl
  rw [Bool.eq_iff_iff, beq_iff_eq, decide_eq_true_eq]
  constructor
  · intro h
    rw [ByteArray.toList_eq, ByteArray.toList_eq] at h
    have h2 : s.extract a (a + 2) = ⟨#[100, 117]⟩ := ByteArray.ext (Array.toList_inj.1 h)
    rw [h2] at e0 e1
    rw [f0] at e0
    rw [f1] at e1
    rw [Nat.add_zero] at e0
    exact ⟨e0.symm, e1.symm⟩
  · rintro ⟨h0, h1⟩
    have : s.extract a (a + 2) = ⟨#[100, 117]⟩ := str_ext (by omega) (fun k hk => by
      have : k = 0 ∨ k = 1 := by omega
      rcases this with rfl | rfl
      · rw [e0, f0, Nat.add_zero, h0]
      · rw [e1, f1, h1])
    rw [this]

end Go.Proofs.Ytbdnelijfbnfnaa
end

section
namespace Go.Proofs.Ytbdnelijfbnfnaa
open Go.ChangeShapes Go.WideShapes Go.ChangeAt Go.RowKit
open Go.PlainAid (bt bt_nonneg bt_le get_bt)
set_option linter.unusedVariables false

/-- The parts of a path between its returns. -/
def primesF : Nat → ByteArray → List ByteArray
  | 0, _ => []
  | n + 1, s => if dyck s = true ∧ 0 < s.size then s.extract 0 ((cutP s).toNat + 1) :: primesF n (s.extract ((cutP s).toNat + 1) s.size) else []
theorem primesF_yes (n : Nat) (s : ByteArray) (h : dyck s = true ∧ 0 < s.size) : primesF (n + 1) s = s.extract 0 ((cutP s).toNat + 1) :: primesF n (s.extract ((cutP s).toNat + 1) s.size) := if_pos h
theorem primesF_no (n : Nat) (s : ByteArray) (h : ¬ (dyck s = true ∧ 0 < s.size)) : primesF n s = [] := by
  cases n with
  | zero => rfl
  | succ n => exact if_neg h
theorem primesF_len : ∀ (n : Nat) (s : ByteArray), (primesF n s).length ≤ s.size := by
  intro n
  induction n with
  | zero => intro s; exact Nat.zero_le _
  | succ n ih =>
    intro s
    by_cases h : dyck s = true ∧ 0 < s.size
    · rw [primesF_yes n s h, List.length_cons]
      have := ih (s.extract ((cutP s).toNat + 1) s.size)
      rw [ByteArray.size_extract] at this
      obtain ⟨h1, h2⟩ := h
      omega
    · rw [primesF_no _ s h]; exact Nat.zero_le _
def primesP (s : ByteArray) : List ByteArray := primesF (s.size + 1) s
theorem primesP_len (s : ByteArray) : (primesP s).length ≤ s.size := primesF_len _ s

end Go.Proofs.Ytbdnelijfbnfnaa
end

section
namespace Go.Proofs.Ytbdnelijfbnfnaa
open Go.ChangeShapes Go.WideShapes Go.ChangeAt Go.RowKit
set_option linter.unusedVariables false

/-- All words of n letters that lead from height h to 0. -/
def enumP : Nat → Nat → List (List UInt8)
  | h, 0 => if h = 0 then [[]] else []
  | h, n + 1 => (enumP (h + 1) n).map (fun l => 117 :: l) ++ (match h with | 0 => [] | k + 1 => (enumP k n).map (fun l => 100 :: l))
theorem enumP_zero (n : Nat) : enumP 0 (n + 1) = (enumP 1 n).map (fun l => 117 :: l) ++ [] := rfl
theorem enumP_succ (k n : Nat) : enumP (k + 1) (n + 1) = (enumP (k + 2) n).map (fun l => 117 :: l) ++ (enumP k n).map (fun l => 100 :: l) := rfl
theorem enumP_all : ∀ (l : List UInt8) (h : Nat), dyckFrom h l = true → l ∈ enumP h l.length := by
  intro l
  induction l with
  | nil =>
    intro h hd
    rw [df_nil] at hd
    simp only [beq_iff_eq] at hd
    subst hd; simp [enumP]
  | cons c l ih =>
    intro h hd
    by_cases e1 : c.toNat = 117
    · rw [df_up h c l e1] at hd
      have : c = 117 := UInt8.toNat_inj.1 (by rw [e1]; rfl)
      subst this
      rw [List.length_cons]
      rcases h with _ | h
      · rw [enumP_zero]; exact List.mem_append_left _ (List.mem_map.2 ⟨l, ih _ hd, rfl⟩)
      · rw [enumP_succ]; exact List.mem_append_left _ (List.mem_map.2 ⟨l, ih _ hd, rfl⟩)
    · by_cases e2 : c.toNat = 100
      · have : c = 100 := UInt8.toNat_inj.1 (by rw [e2]; rfl)
        subst this
        rcases h with _ | h
        · rw [df_below _ _ e2] at hd; cases hd
        · rw [df_down h _ l e2] at hd
          rw [List.length_cons, enumP_succ]
          exact List.mem_append_right _ (List.mem_map.2 ⟨l, ih _ hd, rfl⟩)
      · rw [df_other h c l e1 e2] at hd; cases hd

def catS (l : List ByteArray) : ByteArray := l.foldl (fun a b => a ++ b) ⟨#[]⟩
def okPath (l : List UInt8) : Bool :=
  let s : ByteArray := ⟨l.toArray⟩
  let a := firstA s
  let b := firstB s
  let p := primesP s
  let v := reverseP s
  (l.isEmpty || (joinOk a b && (joinP a b).data.toList == l && areaP s == areaP a + sizeP a + areaP b && returnsP s == 1 + returnsP b && decide (0 ≤ areaP a ∧ areaP a ≤ 1000 ∧ 0 ≤ sizeP a ∧ sizeP a ≤ 1000 ∧ 0 ≤ areaP b ∧ areaP b ≤ 1000 ∧ 0 ≤ returnsP b ∧ returnsP b ≤ 1000)))
    && p.all (fun x => returnsP x == 1 && decide (x.size ≤ 16)) && (catS p).data.toList == l && (p.length : Int) == returnsP s && peaksP v == peaksP s && areaP v == areaP s

theorem ok0 : (List.range 12).all (fun n => (enumP 0 n).all okPath) = true := by decide +kernel
theorem ok6 : (enumP 0 12).all okPath = true := by decide +kernel
theorem ok13 : (enumP 0 13).all okPath = true := by decide +kernel
theorem ok8 : okPath [117, 117, 117, 117, 117, 117, 117, 117, 100, 100, 100, 100, 100, 100, 100, 100] = true := by decide +kernel

end Go.Proofs.Ytbdnelijfbnfnaa
end

section
namespace Go.Proofs.Ytbdnelijfbnfnaa
open Go.ChangeShapes Go.WideShapes Go.ChangeAt Go.RowKit
set_option linter.unusedVariables false

theorem bel_app {w W w' : World} (h : Below w.heap.size w W) (hb : Below W.heap.size W w') : Below w.heap.size w w' := h.trans (hb.mono h.size)
/-- Two slices of heights in a struct, in the memory between two bounds. -/
def Pair (w : World) (lo hi : Nat) (u v : Value) (xs ys : List Int) (n : Nat) : Prop := OwnI w lo hi u xs ∧ OwnI w lo hi v ys ∧ xs.length = n ∧ ys.length = n
theorem Pair.keep {w w' : World} {lo hi B n : Nat} {u v : Value} {xs ys : List Int} (h : Pair w lo hi u v xs ys n) (hb : Below B w w') (hB : hi ≤ B) : Pair w' lo hi u v xs ys n := ⟨h.1.keep hb hB, h.2.1.keep hb hB, h.2.2.1, h.2.2.2⟩
/-- The heights that are chosen so far. -/
def thF (f : Int → Int → Int) (xs ys : List Int) (i : Nat) : Nat → Int := fun q => if q < i then f (xs.getD q 0) (ys.getD q 0) else 0
theorem thF_zero (f : Int → Int → Int) (xs ys : List Int) (q : Nat) : thF f xs ys 0 q = 0 := by unfold thF; rw [if_neg (by omega)]
theorem thF_at (f : Int → Int → Int) (xs ys : List Int) (i : Nat) : thF f xs ys (i + 1) i = f (xs.getD i 0) (ys.getD i 0) := by unfold thF; rw [if_pos (by omega)]
theorem thF_next (f : Int → Int → Int) (xs ys : List Int) (i q : Nat) (h : q ≠ i) : thF f xs ys (i + 1) q = thF f xs ys i q := by
  unfold thF
  by_cases e : q < i
  · rw [if_pos (by omega), if_pos e]
  · rw [if_neg (by omega), if_neg e]
theorem hp_box (w : World) (x y : Value) : (w.alloc (.cells #[x, y] 39)).cell? ⟨w.heap.size, 0, none⟩ = some x ∧ (w.alloc (.cells #[x, y] 39)).cell? ⟨w.heap.size, 1, none⟩ = some y := by
  constructor
  · rw [World.cell?_alloc_at _ _ _ _ rfl]; rfl
  · rw [World.cell?_alloc_at _ _ _ _ rfl]; rfl

/-- A row of ints behind a block is the same when the block's two cells are written. -/
theorem own_set2 {w : World} {hi b : Nat} {x y : Value} {v : Value} {xs : List Int} (h : OwnI w (b + 1) hi v xs) : OwnI ((w.setCell ⟨b, 0, none⟩ x).setCell ⟨b, 1, none⟩ y) b ((w.setCell ⟨b, 0, none⟩ x).setCell ⟨b, 1, none⟩ y).heap.size v xs := by
  obtain ⟨A, c, e, h⟩ := h
  refine ⟨A, c, e, h.elim .inl fun ⟨g, C, h1, h2, h3, h4, h5⟩ => ?_⟩
  have h6 : ((w.setCell ⟨b, 0, none⟩ x).setCell ⟨b, 1, none⟩ y).heap[g]? = some (.cells C 3 (0, 0)) := by
    rw [Below.heap_setCell _ _ _ _ (by show g ≠ b; omega), Below.heap_setCell _ _ _ _ (by show g ≠ b; omega)]; exact h4
  exact .inr ⟨g, C, by omega, (Array.getElem?_eq_some_iff.1 h6).1, h3, h6, h5⟩
/-- The two cells of a box at w's end. -/
def Bx (w W : World) (x y : Value) : Prop := (W.cell? ⟨w.heap.size, 0, none⟩ = some x ∧ W.cell? ⟨w.heap.size, 1, none⟩ = some y) ∧ (W.frozen? ⟨w.heap.size, 0, none⟩ = false ∧ W.frozen? ⟨w.heap.size, 1, none⟩ = false) ∧ Below w.heap.size w W ∧ w.heap.size < W.heap.size
theorem bx_start (w : World) (x y : Value) : Bx w (w.alloc (.cells #[x, y] 39)) x y := by
  refine ⟨hp_box w x y, ?_, (Below.refl _ w).alloc (Nat.le_refl _) _, by simp⟩
  have hg : (w.alloc (.cells #[x, y] 39)).heap[w.heap.size]? = some (.cells #[x, y] 39 (0, 0)) := Array.getElem?_push_size
  constructor
  · unfold World.frozen?; rw [hg]; rfl
  · unfold World.frozen?; rw [hg]; rfl
theorem bx_call {w W w' : World} {x y : Value} (hb : Below W.heap.size W w') (h : Bx w W x y) : Bx w w' x y := by
  obtain ⟨⟨h1, h2⟩, ⟨f1, f2⟩, h3, h4⟩ := h
  have := hb.size
  exact ⟨⟨(hb.cell (p := ⟨w.heap.size, 0, none⟩) h4).trans h1, (hb.cell (p := ⟨w.heap.size, 1, none⟩) h4).trans h2⟩, ⟨(hb.frozen (p := ⟨w.heap.size, 0, none⟩) h4).trans f1, (hb.frozen (p := ⟨w.heap.size, 1, none⟩) h4).trans f2⟩, h3.trans (hb.mono h3.size), by omega⟩

set_option maxRecDepth 100000 in
set_option maxHeartbeats 1600000 in
theorem pairOf_no (a b : ByteArray) (w : World) (ha : a.size ≤ 1099511627776) (hb : b.size ≤ 1099511627776) (hf : fitB a b = false) :
    Calls Try.prog 26 #[.string a, .string b] w fun e w' => e = .returned (.tuple #[.agg #[.slice none 0 0, .slice none 0 0], .bool false]) ∧ Below w.heap.size w w' := by
  have HX0 := Lib.hid (bx_start w (.slice none 0 0) (.slice none 0 0))
  rcases h1 : dyck a with _ | _
  · have H1 := Lib.hid h1
    clear h1 hf
    go_enter Try.func26, Try.ntmps26
    go_wp2_with fail
    (with_reducible refine (isDyckI_no a _ H1.out).mono ?_)
    rintro e w1 ⟨rfl, hb1⟩
    have HX1 := Lib.hid (bx_call hb1 HX0.out)
    obtain ⟨⟨c0, c1⟩, ⟨f0, f1⟩, -, hsz⟩ := HX1.out
    clear hb1
    go_wp2
    (try simp only [Exit.inBlock, Exit.then])
    refine bodyPost_ret (v := .tuple #[.agg #[.slice none 0 0, .slice none 0 0], .bool false]) ?_ rfl ⟨rfl, ?_⟩
    · rw [results_cell_tmp rfl]
      go_simp
    · exact ((HX1.out.2.2.1.setCell (p := ⟨w.heap.size, 0, none⟩) (Nat.le_refl _) _).setCell (p := ⟨w.heap.size, 1, none⟩) (Nat.le_refl _) _)
  · rcases h2 : dyck b with _ | _
    · have H1 := Lib.hid h1
      have H2 := Lib.hid h2
      clear h1 h2 hf
      go_enter Try.func26, Try.ntmps26
      go_wp2_with fail
      (with_reducible refine (isDyckI_yes a _ H1.out).mono ?_)
      rintro e w1 ⟨rfl, hb1⟩
      have HX1 := Lib.hid (bx_call hb1 HX0.out)
      clear hb1
      go_wp2_with fail
      (with_reducible refine (isDyckI_no b _ H2.out).mono ?_)
      rintro e w2 ⟨rfl, hb2⟩
      have HX2 := Lib.hid (bx_call hb2 HX1.out)
      obtain ⟨⟨c0, c1⟩, ⟨f0, f1⟩, -, hsz⟩ := HX2.out
      clear hb2
      go_wp2
      (try simp only [Exit.inBlock, Exit.then])
      refine bodyPost_ret (v := .tuple #[.agg #[.slice none 0 0, .slice none 0 0], .bool false]) ?_ rfl ⟨rfl, ?_⟩
      · rw [results_cell_tmp rfl]
        go_simp
      · exact ((HX2.out.2.2.1.setCell (p := ⟨w.heap.size, 0, none⟩) (Nat.le_refl _) _).setCell (p := ⟨w.heap.size, 1, none⟩) (Nat.le_refl _) _)
    · have hne : a.size ≠ b.size := fun e => by rw [fit_of h1 h2 e] at hf; cases hf
      have hni : ((a.size : Int) != (b.size : Int)) = true := by simp; omega
      have hnd : ((a.size : Int) == (b.size : Int)) = false := by simp; omega
      have H1 := Lib.hid h1
      have H2 := Lib.hid h2
      clear h1 h2 hf hne
      go_enter Try.func26, Try.ntmps26
      go_wp2_with fail
      (with_reducible refine (isDyckI_yes a _ H1.out).mono ?_)
      rintro e w1 ⟨rfl, hb1⟩
      have HX1 := Lib.hid (bx_call hb1 HX0.out)
      clear hb1
      go_wp2_with fail
      (with_reducible refine (isDyckI_yes b _ H2.out).mono ?_)
      rintro e w2 ⟨rfl, hb2⟩
      have HX2 := Lib.hid (bx_call hb2 HX1.out)
      obtain ⟨⟨c0, c1⟩, ⟨f0, f1⟩, -, hsz⟩ := HX2.out
      clear hb2
      go_wp2
      (try simp only [Exit.inBlock, Exit.then])
      refine bodyPost_ret (v := .tuple #[.agg #[.slice none 0 0, .slice none 0 0], .bool false]) ?_ rfl ⟨rfl, ?_⟩
      · rw [results_cell_tmp rfl]
        go_simp
      · exact ((HX2.out.2.2.1.setCell (p := ⟨w.heap.size, 0, none⟩) (Nat.le_refl _) _).setCell (p := ⟨w.heap.size, 1, none⟩) (Nat.le_refl _) _)

set_option maxRecDepth 100000 in
set_option maxHeartbeats 1600000 in
theorem pairOf_yes (a b : ByteArray) (w : World) (ha : a.size ≤ 1099511627776) (hb : b.size ≤ 1099511627776) (hf : fitB a b = true) :
    Calls Try.prog 26 #[.string a, .string b] w fun e w' => ∃ u v, e = .returned (.tuple #[.agg #[u, v], .bool true]) ∧ Pair w' w.heap.size w'.heap.size u v (heightsP a) (heightsP b) (a.size + 1) ∧ Below w.heap.size w w' := by
  have HX0 := Lib.hid (bx_start w (.slice none 0 0) (.slice none 0 0))
  obtain ⟨d1, d2, hs⟩ := fit_yes hf
  have hsi : ((a.size : Int) != (b.size : Int)) = false := by rw [hs]; simp
  have hsd : ((a.size : Int) == (b.size : Int)) = true := by rw [hs]; simp
  have H1 := Lib.hid d1
  have H2 := Lib.hid d2
  have HL1 := Lib.hid (hs_len d1)
  have HL2 := Lib.hid (show (heightsP b).length = a.size + 1 by rw [hs_len d2, hs])
  have HS := Lib.hid hs
  clear d1 d2 hf hs
  go_enter Try.func26, Try.ntmps26
  go_wp2_with fail
  (with_reducible refine (isDyckI_yes a _ H1.out).mono ?_)
  rintro e w1 ⟨rfl, hb1⟩
  have HX1 := Lib.hid (bx_call hb1 HX0.out)
  clear hb1
  go_wp2_with fail
  (with_reducible refine (isDyckI_yes b _ H2.out).mono ?_)
  rintro e w2 ⟨rfl, hb2⟩
  have HX2 := Lib.hid (bx_call hb2 HX1.out)
  clear hb2
  go_wp2_with fail
  (with_reducible refine (heightsOfI a _).mono ?_)
  rintro e w3 ⟨v3, rfl, o3, hb3⟩
  have HX3 := Lib.hid (bx_call hb3 HX2.out)
  have HO3 := Lib.hid (o3.wide (show w.heap.size + 1 ≤ w2.heap.size from HX2.out.2.2.2) (Nat.le_refl _))
  clear hb3 o3
  go_wp2_with fail
  (with_reducible refine (heightsOfI b _).mono ?_)
  rintro e w4 ⟨v4, rfl, o4, hb4⟩
  have HX4 := Lib.hid (bx_call hb4 HX3.out)
  have HO4 := Lib.hid (o4.wide (show w.heap.size + 1 ≤ w3.heap.size from HX3.out.2.2.2) (Nat.le_refl _))
  have HO34 := Lib.hid ((HO3.out.keep hb4 (Nat.le_refl _)).wide (Nat.le_refl _) hb4.size)
  obtain ⟨A3, c3, rfl, -⟩ := id HO3.out
  obtain ⟨A4, c4, rfl, -⟩ := id HO4.out
  obtain ⟨⟨c0, c1⟩, ⟨f0, f1⟩, -, hsz⟩ := HX4.out
  clear hb4 o4
  go_wp2
  (try simp only [Exit.inBlock, Exit.then])
  refine bodyPost_ret (v := .tuple #[.agg #[.slice A3 (heightsP a).length c3, .slice A4 (heightsP b).length c4], .bool true]) ?_ rfl ⟨_, _, rfl, ⟨?_, ?_, HL1.out, HL2.out⟩, ?_⟩
  · rw [results_cell_tmp rfl]
    go_simp
  · exact own_set2 (hi := w4.heap.size) HO34.out
  · exact own_set2 (hi := w4.heap.size) HO4.out
  · exact ((HX4.out.2.2.1.setCell (p := ⟨w.heap.size, 0, none⟩) (Nat.le_refl _) _).setCell (p := ⟨w.heap.size, 1, none⟩) (Nat.le_refl _) _)

set_option maxRecDepth 100000 in
set_option maxHeartbeats 1600000 in
theorem lesser_at (u v : Value) (xs ys : List Int) (lo hi n i : Nat) (w : World) (hp : Pair w lo hi u v xs ys n) (hhi : hi ≤ w.heap.size) (h : i < n) (hn : n ≤ 1048576) :
    Calls Try.prog 28 #[.agg #[u, v], .int .i64 i] w fun e w' => e = .returned (.int .i64 (min (xs.getD i 0) (ys.getD i 0))) ∧ Below w.heap.size w w' := by
  obtain ⟨o1, o2, l1, l2⟩ := hp
  have l1' := l1
  have l2' := l2
  obtain ⟨g1, p1, rfl, -, -, hc1, -⟩ := o1.cell (j := i) (by omega)
  obtain ⟨g2, p2, rfl, -, -, hc2, -⟩ := o2.cell (j := i) (by omega)
  rw [l1, l2]
  clear l1' l2'
  generalize xs.getD i 0 = x at *
  generalize ys.getD i 0 = y at *
  have hii : (i : Int) < (n : Int) := by omega
  obtain ⟨hb0, hb1⟩ := hp_box w (.slice (some ⟨g1, 0, none⟩) n p1) (.slice (some ⟨g2, 0, none⟩) n p2)
  have hg1 : g1 < w.heap.size := (World.block_lt_of_cell? _ _ hc1)
  have hg2 : g2 < w.heap.size := (World.block_lt_of_cell? _ _ hc2)
  have hd1 : (w.alloc (.cells #[.slice (some ⟨g1, 0, none⟩) n p1, .slice (some ⟨g2, 0, none⟩) n p2] 39)).cell? ⟨g1, i, none⟩ = some (.int .i64 x) := (World.cell?_of_block (a := ⟨g1, i, none⟩) (Below.heap_alloc _ _ _ hg1)).trans hc1
  have hd2 : (w.alloc (.cells #[.slice (some ⟨g1, 0, none⟩) n p1, .slice (some ⟨g2, 0, none⟩) n p2] 39)).cell? ⟨g2, i, none⟩ = some (.int .i64 y) := (World.cell?_of_block (a := ⟨g2, i, none⟩) (Below.heap_alloc _ _ _ hg2)).trans hc2
  clear l1 l2 o1 o2 hc1 hc2
  go_enter Try.func28, Try.ntmps28
  go_wp2
  go_quiet (fail)
  go_wp2
  go_ret
  exact ⟨rfl, below_drewN ((Below.refl _ w).alloc (Nat.le_refl _) _) _⟩

set_option maxRecDepth 100000 in
set_option maxHeartbeats 3200000 in
theorem through_lesser (u v : Value) (xs ys : List Int) (lo hi d : Nat) (w : World) (hp : Pair w lo hi u v xs ys (d + 1)) (hhi : hi ≤ w.heap.size) (hn : d ≤ 1048570) :
    Calls Try.prog 27 #[.agg #[u, v], .func (.func 28) #[.agg #[u, v]] #[]] w fun e w' => e = .returned (.tuple #[.string (pohP (hh min xs ys (d + 1))), .bool (pohOk (hh min xs ys (d + 1)))]) ∧ Below w.heap.size w w' := by
  obtain ⟨i0, hi0, hz0, hz1, hz2⟩ := info_parts info3
  obtain ⟨A1, c1, rfl, -⟩ := id hp.1
  obtain ⟨A2, c2, rfl, -⟩ := id hp.2.1
  have l1 := hp.2.2.1
  have l2 := hp.2.2.2
  rw [l1, l2] at hp
  rw [l1, l2]
  have HP := Lib.hid hp
  obtain ⟨hb0, hb1⟩ := hp_box w (.slice A1 (d + 1) c1) (.slice A2 (d + 1) c2)
  have HB0 := Lib.hid ((Below.refl w.heap.size w).alloc (Nat.le_refl _) (.cells #[.slice A1 (d + 1) c1, .slice A2 (d + 1) c2] 39))
  clear hp l1 l2
  go_enter Try.func27, Try.ntmps27
  go_wp2_with (at_make; go_must (refine wpList_make_full _ rfl _ _ 37 rfl (w.heap.size + 1) 3 i0 (.int .i64 0) 1 Try.underlying37 hi0 hz0 hz1 .i64 .i64 ((d : Int) + 1) ((d : Int) + 1) (d + 1) rfl rfl (by omega) (by omega) (by rw [hz2]; omega) (by unfold maxLen; omega) (by simp) ?_); intro w2 hown1 hgrow1)
  have HR := Lib.hid (RowI.made hown1)
  have HB2 := Lib.hid (HB0.out.grown hgrow1 (by simp) (fun k hk => by cases hk))
  have hbk : (w.alloc (.cells #[.slice A1 (d + 1) c1, .slice A2 (d + 1) c2] 39)).heap.size = w.heap.size + 1 := by simp
  rw [hbk] at HR
  clear hown1 hgrow1 hbk hb0 hb1 HB0
  obtain ⟨g, hg⟩ : ∃ g, g = w.heap.size + 1 := ⟨_, rfl⟩
  have hgb : w.heap.size ≤ g := by omega
  rw [← hg] at HR
  rw [← hg]
  clear hg
  go_loopw [14] (fun y wr => ∃ i : Nat, i ≤ d + 1 ∧ y = .int .i64 i ∧ RowI wr g d (thF min xs ys i) ∧ Below w.heap.size w wr ∧ g < wr.heap.size) (fun y _ => d + 1 - (intOf y).toNat)
  case atStart => exact ⟨0, Nat.zero_le _, rfl, HR.out.same (fun q _ => thF_zero _ _ _ q), HB2.out, HR.out.lt⟩
  case round =>
    obtain ⟨i, hi1, rfl, hrow, hb, hgz⟩ := hrel
    have HROW := Lib.hid hrow
    have HB := Lib.hid hb
    clear hrow hb
    by_cases hlt : i < d + 1
    · have hii : (i : Int) < (d : Int) + 1 := by omega
      have HLS := Lib.hid (lesser_at (.slice A1 (d + 1) c1) (.slice A2 (d + 1) c2) xs ys lo hi (d + 1) i wr (HP.out.keep HB.out hhi) (Nat.le_trans hhi HB.out.size) hlt (by omega))
      have HAT := Lib.hid (thF_at min xs ys i)
      generalize min (xs.getD i 0) (ys.getD i 0) = z at *
      go_wp2_with fail
      (with_reducible refine HLS.out.mono ?_)
      rintro e w3 ⟨rfl, hb3⟩
      have HROW3 := Lib.hid (HROW.out.keep (hb3.block g hgz))
      have HB3 := Lib.hid (bel_app HB.out hb3)
      have hgz3 : g < w3.heap.size := Nat.lt_of_lt_of_le hgz hb3.size
      obtain ⟨hc, hf⟩ := HROW3.out.cell (k := i) (by omega)
      clear hb3
      go_wp2
      refine ⟨⟨i + 1, by omega, by simp, HROW3.out.set (f' := thF min xs ys (i + 1)) (by omega) HAT.out (fun q _ hne => thF_next _ _ _ _ _ hne), HB3.out.setCell hgb _, by simpa [World.setCell] using hgz3⟩, by simp [intOf]; omega⟩
    · obtain rfl : i = d + 1 := by omega
      have HO := Lib.hid (fun c => OwnI.of_rowI (lo := w.heap.size) (hi := wr.heap.size) (c := c) (xs := hh min xs ys (d + 1)) HROW.out (hh_len _ _ _ _) (fun j hj => by rw [hh_at _ _ _ _ _ (by omega)]; unfold thF; rw [if_pos (by omega)]) hgb hgz)
      have HQ := Lib.hid (fun c => pathOfHeightsI (.slice (some ⟨g, 0, none⟩) (d + 1) c) (hh min xs ys (d + 1)) _ _ wr (HO.out c) (Nat.le_refl _) (by rw [hh_len]; omega))
      go_wp2_with fail
      (with_reducible refine (HQ.out _).mono ?_)
      rintro e w3 ⟨rfl, hb3⟩
      go_wp2
      go_ret2
      exact ⟨rfl, bel_app HB.out hb3⟩

set_option maxRecDepth 100000 in
set_option maxHeartbeats 1600000 in
theorem LowerPathI (a b : ByteArray) (w : World) (ha : a.size ≤ 1099511627776) (hb : b.size ≤ 1099511627776) :
    Calls Try.prog 6 #[.string a, .string b] w fun e w' => e = .returned (.tuple #[.string (thrP min a b), .bool (thrOk min a b)]) ∧ Below w.heap.size w w' := by
  rcases hf : fitB a b with _ | _
  · have HP := Lib.hid (thr_no (f := min) hf)
    have HF := Lib.hid (pairOf_no a b w ha hb hf)
    clear hf
    go_enter Try.func6, Try.ntmps6
    go_wp2_with fail
    (with_reducible refine HF.out.mono ?_)
    rintro e w1 ⟨rfl, hb1⟩
    have z1 := hb1.size
    go_wp2
    go_ret2
    exact ⟨ret_sb HP.out.1.symm HP.out.2.symm, hb1.alloc z1 _⟩
  · have HP := Lib.hid (thr_yes (f := min) hf)
    have HF := Lib.hid (pairOf_yes a b w ha hb hf)
    have h16 := dyck_size (fit_yes hf).1
    clear hf
    go_enter Try.func6, Try.ntmps6
    go_wp2_with fail
    (with_reducible refine HF.out.mono ?_)
    rintro e w1 ⟨u, v, rfl, hp, hb1⟩
    have z1 := hb1.size
    have HB1 := Lib.hid hb1
    have HPA := Lib.hid hp
    obtain ⟨k0, k1⟩ := hp_box w1 u v
    have HTH := Lib.hid (through_lesser u v (heightsP a) (heightsP b) w.heap.size w1.heap.size a.size (w1.alloc (.cells #[u, v] 39)) (hp.keep ((Below.refl w1.heap.size w1).alloc (Nat.le_refl _) _) (Nat.le_refl _)) (by simp) (by omega))
    have HB2 := Lib.hid (hb1.alloc z1 (.cells #[u, v] 39))
    have z2 := HB2.out.size
    clear hb1 hp
    obtain ⟨A1, c1, rfl, -⟩ := id HPA.out.1
    obtain ⟨A2, c2, rfl, -⟩ := id HPA.out.2.1
    go_wp2_with fail
    (with_reducible refine HTH.out.mono ?_)
    rintro e w3 ⟨rfl, hb3⟩
    go_wp2
    go_ret2
    exact ⟨ret_sb HP.out.1.symm HP.out.2.symm, HB2.out.trans (hb3.mono z2)⟩

set_option maxRecDepth 100000 in
set_option maxHeartbeats 1600000 in
theorem greater_at (u v : Value) (xs ys : List Int) (lo hi n i : Nat) (w : World) (hp : Pair w lo hi u v xs ys n) (hhi : hi ≤ w.heap.size) (h : i < n) (hn : n ≤ 1048576) :
    Calls Try.prog 30 #[.agg #[u, v], .int .i64 i] w fun e w' => e = .returned (.int .i64 (max (xs.getD i 0) (ys.getD i 0))) ∧ Below w.heap.size w w' := by
  obtain ⟨o1, o2, l1, l2⟩ := hp
  have l1' := l1
  have l2' := l2
  obtain ⟨g1, p1, rfl, -, -, hc1, -⟩ := o1.cell (j := i) (by omega)
  obtain ⟨g2, p2, rfl, -, -, hc2, -⟩ := o2.cell (j := i) (by omega)
  rw [l1, l2]
  clear l1' l2'
  generalize xs.getD i 0 = x at *
  generalize ys.getD i 0 = y at *
  have hii : (i : Int) < (n : Int) := by omega
  obtain ⟨hb0, hb1⟩ := hp_box w (.slice (some ⟨g1, 0, none⟩) n p1) (.slice (some ⟨g2, 0, none⟩) n p2)
  have hg1 : g1 < w.heap.size := (World.block_lt_of_cell? _ _ hc1)
  have hg2 : g2 < w.heap.size := (World.block_lt_of_cell? _ _ hc2)
  have hd1 : (w.alloc (.cells #[.slice (some ⟨g1, 0, none⟩) n p1, .slice (some ⟨g2, 0, none⟩) n p2] 39)).cell? ⟨g1, i, none⟩ = some (.int .i64 x) := (World.cell?_of_block (a := ⟨g1, i, none⟩) (Below.heap_alloc _ _ _ hg1)).trans hc1
  have hd2 : (w.alloc (.cells #[.slice (some ⟨g1, 0, none⟩) n p1, .slice (some ⟨g2, 0, none⟩) n p2] 39)).cell? ⟨g2, i, none⟩ = some (.int .i64 y) := (World.cell?_of_block (a := ⟨g2, i, none⟩) (Below.heap_alloc _ _ _ hg2)).trans hc2
  clear l1 l2 o1 o2 hc1 hc2
  go_enter Try.func30, Try.ntmps30
  go_wp2
  go_quiet (fail)
  go_wp2
  go_ret
  exact ⟨rfl, below_drewN ((Below.refl _ w).alloc (Nat.le_refl _) _) _⟩

set_option maxRecDepth 100000 in
set_option maxHeartbeats 3200000 in
theorem through_greater (u v : Value) (xs ys : List Int) (lo hi d : Nat) (w : World) (hp : Pair w lo hi u v xs ys (d + 1)) (hhi : hi ≤ w.heap.size) (hn : d ≤ 1048570) :
    Calls Try.prog 27 #[.agg #[u, v], .func (.func 30) #[.agg #[u, v]] #[]] w fun e w' => e = .returned (.tuple #[.string (pohP (hh max xs ys (d + 1))), .bool (pohOk (hh max xs ys (d + 1)))]) ∧ Below w.heap.size w w' := by
  obtain ⟨i0, hi0, hz0, hz1, hz2⟩ := info_parts info3
  obtain ⟨A1, c1, rfl, -⟩ := id hp.1
  obtain ⟨A2, c2, rfl, -⟩ := id hp.2.1
  have l1 := hp.2.2.1
  have l2 := hp.2.2.2
  rw [l1, l2] at hp
  rw [l1, l2]
  have HP := Lib.hid hp
  obtain ⟨hb0, hb1⟩ := hp_box w (.slice A1 (d + 1) c1) (.slice A2 (d + 1) c2)
  have HB0 := Lib.hid ((Below.refl w.heap.size w).alloc (Nat.le_refl _) (.cells #[.slice A1 (d + 1) c1, .slice A2 (d + 1) c2] 39))
  clear hp l1 l2
  go_enter Try.func27, Try.ntmps27
  go_wp2_with (at_make; go_must (refine wpList_make_full _ rfl _ _ 37 rfl (w.heap.size + 1) 3 i0 (.int .i64 0) 1 Try.underlying37 hi0 hz0 hz1 .i64 .i64 ((d : Int) + 1) ((d : Int) + 1) (d + 1) rfl rfl (by omega) (by omega) (by rw [hz2]; omega) (by unfold maxLen; omega) (by simp) ?_); intro w2 hown1 hgrow1)
  have HR := Lib.hid (RowI.made hown1)
  have HB2 := Lib.hid (HB0.out.grown hgrow1 (by simp) (fun k hk => by cases hk))
  have hbk : (w.alloc (.cells #[.slice A1 (d + 1) c1, .slice A2 (d + 1) c2] 39)).heap.size = w.heap.size + 1 := by simp
  rw [hbk] at HR
  clear hown1 hgrow1 hbk hb0 hb1 HB0
  obtain ⟨g, hg⟩ : ∃ g, g = w.heap.size + 1 := ⟨_, rfl⟩
  have hgb : w.heap.size ≤ g := by omega
  rw [← hg] at HR
  rw [← hg]
  clear hg
  go_loopw [14] (fun y wr => ∃ i : Nat, i ≤ d + 1 ∧ y = .int .i64 i ∧ RowI wr g d (thF max xs ys i) ∧ Below w.heap.size w wr ∧ g < wr.heap.size) (fun y _ => d + 1 - (intOf y).toNat)
  case atStart => exact ⟨0, Nat.zero_le _, rfl, HR.out.same (fun q _ => thF_zero _ _ _ q), HB2.out, HR.out.lt⟩
  case round =>
    obtain ⟨i, hi1, rfl, hrow, hb, hgz⟩ := hrel
    have HROW := Lib.hid hrow
    have HB := Lib.hid hb
    clear hrow hb
    by_cases hlt : i < d + 1
    · have hii : (i : Int) < (d : Int) + 1 := by omega
      have HLS := Lib.hid (greater_at (.slice A1 (d + 1) c1) (.slice A2 (d + 1) c2) xs ys lo hi (d + 1) i wr (HP.out.keep HB.out hhi) (Nat.le_trans hhi HB.out.size) hlt (by omega))
      have HAT := Lib.hid (thF_at max xs ys i)
      generalize max (xs.getD i 0) (ys.getD i 0) = z at *
      go_wp2_with fail
      (with_reducible refine HLS.out.mono ?_)
      rintro e w3 ⟨rfl, hb3⟩
      have HROW3 := Lib.hid (HROW.out.keep (hb3.block g hgz))
      have HB3 := Lib.hid (bel_app HB.out hb3)
      have hgz3 : g < w3.heap.size := Nat.lt_of_lt_of_le hgz hb3.size
      obtain ⟨hc, hf⟩ := HROW3.out.cell (k := i) (by omega)
      clear hb3
      go_wp2
      refine ⟨⟨i + 1, by omega, by simp, HROW3.out.set (f' := thF max xs ys (i + 1)) (by omega) HAT.out (fun q _ hne => thF_next _ _ _ _ _ hne), HB3.out.setCell hgb _, by simpa [World.setCell] using hgz3⟩, by simp [intOf]; omega⟩
    · obtain rfl : i = d + 1 := by omega
      have HO := Lib.hid (fun c => OwnI.of_rowI (lo := w.heap.size) (hi := wr.heap.size) (c := c) (xs := hh max xs ys (d + 1)) HROW.out (hh_len _ _ _ _) (fun j hj => by rw [hh_at _ _ _ _ _ (by omega)]; unfold thF; rw [if_pos (by omega)]) hgb hgz)
      have HQ := Lib.hid (fun c => pathOfHeightsI (.slice (some ⟨g, 0, none⟩) (d + 1) c) (hh max xs ys (d + 1)) _ _ wr (HO.out c) (Nat.le_refl _) (by rw [hh_len]; omega))
      go_wp2_with fail
      (with_reducible refine (HQ.out _).mono ?_)
      rintro e w3 ⟨rfl, hb3⟩
      go_wp2
      go_ret2
      exact ⟨rfl, bel_app HB.out hb3⟩

set_option maxRecDepth 100000 in
set_option maxHeartbeats 1600000 in
theorem UpperPathI (a b : ByteArray) (w : World) (ha : a.size ≤ 1099511627776) (hb : b.size ≤ 1099511627776) :
    Calls Try.prog 8 #[.string a, .string b] w fun e w' => e = .returned (.tuple #[.string (thrP max a b), .bool (thrOk max a b)]) ∧ Below w.heap.size w w' := by
  rcases hf : fitB a b with _ | _
  · have HP := Lib.hid (thr_no (f := max) hf)
    have HF := Lib.hid (pairOf_no a b w ha hb hf)
    clear hf
    go_enter Try.func8, Try.ntmps8
    go_wp2_with fail
    (with_reducible refine HF.out.mono ?_)
    rintro e w1 ⟨rfl, hb1⟩
    have z1 := hb1.size
    go_wp2
    go_ret2
    exact ⟨ret_sb HP.out.1.symm HP.out.2.symm, hb1.alloc z1 _⟩
  · have HP := Lib.hid (thr_yes (f := max) hf)
    have HF := Lib.hid (pairOf_yes a b w ha hb hf)
    have h16 := dyck_size (fit_yes hf).1
    clear hf
    go_enter Try.func8, Try.ntmps8
    go_wp2_with fail
    (with_reducible refine HF.out.mono ?_)
    rintro e w1 ⟨u, v, rfl, hp, hb1⟩
    have z1 := hb1.size
    have HB1 := Lib.hid hb1
    have HPA := Lib.hid hp
    obtain ⟨k0, k1⟩ := hp_box w1 u v
    have HTH := Lib.hid (through_greater u v (heightsP a) (heightsP b) w.heap.size w1.heap.size a.size (w1.alloc (.cells #[u, v] 39)) (hp.keep ((Below.refl w1.heap.size w1).alloc (Nat.le_refl _) _) (Nat.le_refl _)) (by simp) (by omega))
    have HB2 := Lib.hid (hb1.alloc z1 (.cells #[u, v] 39))
    have z2 := HB2.out.size
    clear hb1 hp
    obtain ⟨A1, c1, rfl, -⟩ := id HPA.out.1
    obtain ⟨A2, c2, rfl, -⟩ := id HPA.out.2.1
    go_wp2_with fail
    (with_reducible refine HTH.out.mono ?_)
    rintro e w3 ⟨rfl, hb3⟩
    go_wp2
    go_ret2
    exact ⟨ret_sb HP.out.1.symm HP.out.2.symm, HB2.out.trans (hb3.mono z2)⟩

set_option maxRecDepth 100000 in
set_option maxHeartbeats 800000 in
theorem isBelowI (a b : ByteArray) (w : World) (ha : a.size ≤ 1099511627776) (hb : b.size ≤ 1099511627776) : Calls Try.prog 12 #[.string a, .string b] w fun e w' => e = .returned (.bool (isbP a b)) ∧ Below w.heap.size w w' := by
  have HL := Lib.hid (LowerPathI a b w ha hb)
  rcases hf : fitB a b with _ | _
  · have HP := Lib.hid (isb_no hf)
    obtain ⟨h1, h2⟩ := thr_no (f := min) hf
    rw [h1, h2] at HL
    clear hf h1 h2
    go_enter Try.func12, Try.ntmps12
    go_wp2_with fail
    (with_reducible refine HL.out.mono ?_)
    rintro e w1 ⟨rfl, hb1⟩
    go_wp2
    go_ret
    exact ⟨ret_bool HP.out.symm, hb1⟩
  · have HP := Lib.hid (isb_low hf)
    clear hf
    rcases hk : thrOk min a b with _ | _
    · have HP2 := Lib.hid (show isbP a b = false by rw [HP.out, hk]; rfl)
      rw [hk] at HL
      clear hk HP
      go_enter Try.func12, Try.ntmps12
      go_wp2_with fail
      (with_reducible refine HL.out.mono ?_)
      rintro e w1 ⟨rfl, hb1⟩
      go_wp2
      go_ret
      exact ⟨ret_bool HP2.out.symm, hb1⟩
    · have HP2 := Lib.hid (show isbP a b = ((thrP min a b).toList == a.toList) by
        rw [HP.out, hk, Bool.true_and, Bool.eq_iff_iff, decide_eq_true_eq, beq_iff_eq]
        constructor
        · intro h; rw [h]
        · intro h
          rw [ByteArray.toList_eq, ByteArray.toList_eq] at h
          exact ByteArray.ext (Array.toList_inj.1 h))
      rw [hk] at HL
      clear hk HP
      generalize thrP min a b = r at *
      go_enter Try.func12, Try.ntmps12
      go_wp2_with fail
      (with_reducible refine HL.out.mono ?_)
      rintro e w1 ⟨rfl, hb1⟩
      go_wp2
      go_ret
      exact ⟨ret_bool HP2.out.symm, hb1⟩

/-- The pair's box stands, behind each step of a region. -/
theorem rs_call {w W w' : World} {x y : Value} (hb : Below W.heap.size W w') (h : W.cell? ⟨w.heap.size, 0, none⟩ = some x ∧ W.cell? ⟨w.heap.size, 1, none⟩ = some y ∧ Below w.heap.size w W ∧ w.heap.size < W.heap.size) :
    w'.cell? ⟨w.heap.size, 0, none⟩ = some x ∧ w'.cell? ⟨w.heap.size, 1, none⟩ = some y ∧ Below w.heap.size w w' ∧ w.heap.size < w'.heap.size := by
  obtain ⟨h1, h2, h3, h4⟩ := h
  have := hb.size
  exact ⟨(hb.cell (p := ⟨w.heap.size, 0, none⟩) h4).trans h1, (hb.cell (p := ⟨w.heap.size, 1, none⟩) h4).trans h2, h3.trans (hb.mono h3.size), by omega⟩
theorem rs_drew {w W : World} {x y : Value} (h : W.cell? ⟨w.heap.size, 0, none⟩ = some x ∧ W.cell? ⟨w.heap.size, 1, none⟩ = some y ∧ Below w.heap.size w W ∧ w.heap.size < W.heap.size) :
    W.drew.cell? ⟨w.heap.size, 0, none⟩ = some x ∧ W.drew.cell? ⟨w.heap.size, 1, none⟩ = some y ∧ Below w.heap.size w W.drew ∧ w.heap.size < W.drew.heap.size :=
  ⟨h.1, h.2.1, below_drewN h.2.2.1 1, h.2.2.2⟩

set_option maxRecDepth 100000 in
set_option maxHeartbeats 3200000 in
theorem distanceBetweenI (a b : ByteArray) (w : World) (ha : a.size ≤ 1099511627776) (hb : b.size ≤ 1099511627776) : Calls Try.prog 10 #[.string a, .string b] w fun e w' => e = .returned (.int .i64 (dstP a b)) ∧ Below w.heap.size w w' := by
  rcases hf : fitB a b with _ | _
  · have HP := Lib.hid (dst_no hf)
    have HF := Lib.hid (pairOf_no a b w ha hb hf)
    clear hf
    go_enter Try.func10, Try.ntmps10
    go_wp2_with fail
    (with_reducible refine HF.out.mono ?_)
    rintro e w1 ⟨rfl, hb1⟩
    have z1 := hb1.size
    go_wp2
    go_ret
    exact ⟨ret_int HP.out.symm, hb1.alloc z1 _⟩
  · have HP := Lib.hid (dst_yes hf)
    have HF := Lib.hid (pairOf_yes a b w ha hb hf)
    obtain ⟨d1, d2, hs⟩ := fit_yes hf
    have h16 := dyck_size d1
    have HX := Lib.hid (fun j (h : j < a.size + 1) => hs_fit d1 j h)
    have HY := Lib.hid (fun j (h : j < a.size + 1) => hs_fit d2 j (by omega))
    have HDB := Lib.hid (dsL_bd HX.out HY.out)
    clear hf d1 d2 hs
    obtain ⟨n, hn⟩ : ∃ n, n = a.size + 1 := ⟨_, rfl⟩
    have hn17 : n ≤ 17 := by omega
    rw [← hn] at HP HX HY HDB HF
    clear hn h16
    generalize heightsP a = xs at *
    generalize heightsP b = ys at *
    go_enter Try.func10, Try.ntmps10
    go_wp2_with fail
    (with_reducible refine HF.out.mono ?_)
    rintro e w1 ⟨u, v, rfl, hp, hb1⟩
    have z1 := hb1.size
    have HB1 := Lib.hid hb1
    have HPA := Lib.hid hp
    have HS0 := Lib.hid (show (w1.alloc (.cells #[u, v] 39)).cell? ⟨w1.heap.size, 0, none⟩ = some u ∧ (w1.alloc (.cells #[u, v] 39)).cell? ⟨w1.heap.size, 1, none⟩ = some v ∧ Below w1.heap.size w1 (w1.alloc (.cells #[u, v] 39)) ∧ w1.heap.size < (w1.alloc (.cells #[u, v] 39)).heap.size from
      ⟨(hp_box w1 u v).1, (hp_box w1 u v).2, (Below.refl _ w1).alloc (Nat.le_refl _) _, by simp⟩)
    have HLE := Lib.hid (fun (W : World) (i : Nat) (hi : i < n) (hS : W.cell? ⟨w1.heap.size, 0, none⟩ = some u ∧ W.cell? ⟨w1.heap.size, 1, none⟩ = some v ∧ Below w1.heap.size w1 W ∧ w1.heap.size < W.heap.size) => lesser_at u v xs ys _ _ n i W (HPA.out.keep hS.2.2.1 (Nat.le_refl _)) (Nat.le_of_lt hS.2.2.2) hi (by omega))
    have HGR := Lib.hid (fun (W : World) (i : Nat) (hi : i < n) (hS : W.cell? ⟨w1.heap.size, 0, none⟩ = some u ∧ W.cell? ⟨w1.heap.size, 1, none⟩ = some v ∧ Below w1.heap.size w1 W ∧ w1.heap.size < W.heap.size) => greater_at u v xs ys _ _ n i W (HPA.out.keep hS.2.2.1 (Nat.le_refl _)) (Nat.le_of_lt hS.2.2.2) hi (by omega))
    clear hb1 hp
    have hl1 := HPA.out.2.2.1
    have hl2 := HPA.out.2.2.2
    obtain ⟨A1, c1, rfl, -⟩ := id HPA.out.1
    obtain ⟨A2, c2, rfl, -⟩ := id HPA.out.2.1
    rw [hl1, hl2] at HPA HS0 HLE HGR
    rw [hl1, hl2]
    clear hl1 hl2
    obtain ⟨k0, k1, -, -⟩ := HS0.out
    go_wp2
    go_loopw [7, 20] (fun x y wr => ∃ i : Nat, i ≤ n ∧ y = .int .i64 i ∧ x = .int .i64 (dsL xs ys i) ∧ (wr.cell? ⟨w1.heap.size, 0, none⟩ = some (.slice A1 n c1) ∧ wr.cell? ⟨w1.heap.size, 1, none⟩ = some (.slice A2 n c2) ∧ Below w1.heap.size w1 wr ∧ w1.heap.size < wr.heap.size)) (fun _ y _ => n - (intOf y).toNat)
    case atStart => exact ⟨0, Nat.zero_le _, rfl, rfl, HS0.out⟩
    case round =>
      obtain ⟨i, hi, rfl, rfl, hS⟩ := hrel
      have HS := Lib.hid hS
      obtain ⟨q0, q1, -, -⟩ := hS
      clear k0 k1
      obtain ⟨d0, d1⟩ := HDB.out i hi
      by_cases hlt : i < n
      · have hii : (i : Int) < (n : Int) := by omega
        have HL := Lib.hid (fun W hS => HLE.out W i hlt hS)
        have HG := Lib.hid (fun W hS => HGR.out W i hlt hS)
        have HD := Lib.hid (show dsL xs ys (i + 1) = dsL xs ys i + (max (xs.getD i 0) (ys.getD i 0) - min (xs.getD i 0) (ys.getD i 0)) by rw [dsL]; omega)
        obtain ⟨x0, x1⟩ := HX.out i hlt
        obtain ⟨y0, y1⟩ := HY.out i hlt
        generalize dsL xs ys i = d at *
        obtain ⟨p, hp⟩ : ∃ p, p = max (xs.getD i 0) (ys.getD i 0) := ⟨_, rfl⟩
        obtain ⟨q, hq⟩ : ∃ q, q = min (xs.getD i 0) (ys.getD i 0) := ⟨_, rfl⟩
        have hp8 : 0 ≤ p ∧ p ≤ 8 ∧ 0 ≤ q ∧ q ≤ 8 := by omega
        rw [← hp] at HG HD
        rw [← hq] at HL HD
        clear hp hq x0 x1 y0 y1
        have g1 : IntKind.i64.wrap (p - q) = p - q := IntWalk.i64_in _ (by omega)
        have g2 : IntKind.i64.wrap (d + (p - q)) = d + (p - q) := IntWalk.i64_in _ (by omega)
        go_wp2
        go_region_held3 (fun W => W.cell? ⟨w1.heap.size, 0, none⟩ = some (.slice A1 n c1) ∧ W.cell? ⟨w1.heap.size, 1, none⟩ = some (.slice A2 n c2) ∧ Below w1.heap.size w1 W ∧ w1.heap.size < W.heap.size)
          (first | exact HS.out | exact rs_drew (by first | assumption | exact HS.out) | exact rs_call (by assumption) (by first | assumption | exact HS.out | exact rs_drew HS.out | exact rs_drew (by assumption)))
          (first | ((with_reducible refine (HL.out _ (by first | assumption | exact HS.out | exact rs_drew HS.out | exact rs_drew (by assumption))).mono ?_); rintro e w' ⟨rfl, hb⟩) | ((with_reducible refine (HG.out _ (by first | assumption | exact HS.out | exact rs_drew HS.out | exact rs_drew (by assumption))).mono ?_); rintro e w' ⟨rfl, hb⟩))
        all_goals go_wp2
        all_goals exact ⟨⟨i + 1, by omega, by simp, by rw [HD.out], ‹_ ∧ _ ∧ Below w1.heap.size w1 _ ∧ _›⟩, by simp [intOf]; omega⟩
      · obtain rfl : i = n := by omega
        go_wp2
        go_ret
        exact ⟨ret_int HP.out.symm, HB1.out.trans (HS.out.2.2.1.mono z1)⟩

end Go.Proofs.Ytbdnelijfbnfnaa
end

section
namespace Go.Proofs.Ytbdnelijfbnfnaa
open Go.ChangeShapes Go.WideShapes Go.ChangeAt Go.RowKit
set_option linter.unusedVariables false

theorem RowI.grown {w w' : World} {g d : Nat} {f : Nat → Int} {row : Option Nat} (h : RowI w g d f) (hg : w.grownBy w' row) (hne : row ≠ some g) : RowI w' g d f :=
  h.keep (hg.block g h.lt (fun e => hne e.symm))
theorem RowI.alloc {w : World} {g d : Nat} {f : Nat → Int} (h : RowI w g d f) (o : Obj) : RowI (w.alloc o) g d f :=
  h.keep (by
    have := h.lt
    rw [show (w.alloc o).heap = w.heap.push o from rfl, Array.getElem?_push, if_neg (by omega)])
theorem OutR.grown {w w' : World} {base d : Nat} {v : Value} {gs : List Nat} (h : OutR w base d v gs) (hg : w.grownBy w' none) : OutR w' base d v gs :=
  h.keep fun o ho => by
    obtain ⟨cur, h1⟩ := h.own ho
    exact hg.block o (Array.getElem?_eq_some_iff.1 h1).1 (fun e => by cases e)
theorem OutR.alloc {w : World} {base d : Nat} {v : Value} {gs : List Nat} (h : OutR w base d v gs) (o : Obj) : OutR (w.alloc o) base d v gs := World.ownsRow.alloc h o
/-- The row i when the places from i up to k have been filled. -/
def fl (i k : Nat) : Nat → Int := fun q => if i ≤ q ∧ q < k then wy i q else 0
theorem fl_in (i k q : Nat) (h1 : i ≤ q) (h2 : q < k) : fl i k q = wy i q := if_pos ⟨h1, h2⟩
theorem fl_out (i k q : Nat) (h : ¬ (i ≤ q ∧ q < k)) : fl i k q = 0 := if_neg h
theorem fl_next (i k q : Nat) (h : q ≠ k) : fl i (k + 1) q = fl i k q := by
  by_cases e : i ≤ q ∧ q < k
  · rw [fl_in _ _ _ e.1 e.2, fl_in _ _ _ e.1 (by omega)]
  · rw [fl_out _ _ _ e, fl_out _ _ _ (by omega)]
theorem fl_all (i d q : Nat) (h : q ≤ d) : wy i q = fl i (d + 1) q := by
  by_cases e : i ≤ q
  · rw [fl_in _ _ _ e (by omega)]
  · rw [fl_out _ _ _ (by omega), wy_low _ _ (by omega)]
theorem snoc_old (gs : List Nat) (g j : Nat) (h : j < gs.length) : (gs ++ [g]).getD j 0 = gs.getD j 0 := by
  simp [List.getD, List.getElem?_append_left h]
theorem snoc_new (gs : List Nat) (g : Nat) : (gs ++ [g]).getD gs.length 0 = g := by simp [List.getD]

end Go.Proofs.Ytbdnelijfbnfnaa
end

section
namespace Go.Proofs.Ytbdnelijfbnfnaa
open Go.ChangeShapes Go.WideShapes Go.ChangeAt Go.RowKit
open Go.PlainAid (bt bt_nonneg bt_le get_bt)
set_option linter.unusedVariables false

def catP (n : Int) : Int := if 0 ≤ n ∧ n ≤ 15 then wy n.toNat n.toNat else -1
def ballP (u d : Int) : Int := if 0 ≤ u ∧ u ≤ d ∧ d ≤ 15 then wy u.toNat d.toNat else 0

/-- The rank that the letters add when up letters u and down letters d are to come. -/
def rkL : List UInt8 → Nat → Nat → Int
  | [], _, _ => 0
  | c :: l, up, down => if c.toNat = 117 then rkL l (up - 1) down else (if 0 < up then wy (up - 1) down else 0) + rkL l up (down - 1)
theorem rkL_nil (u d : Nat) : rkL [] u d = 0 := rfl
theorem rkL_up (c : UInt8) (l : List UInt8) (u d : Nat) (e : c.toNat = 117) : rkL (c :: l) u d = rkL l (u - 1) d := by rw [rkL, if_pos e]
theorem rkL_down (c : UInt8) (l : List UInt8) (u d : Nat) (e : c.toNat ≠ 117) : rkL (c :: l) u d = (if 0 < u then wy (u - 1) d else 0) + rkL l u (d - 1) := by rw [rkL, if_neg e]
def rankP (s : ByteArray) : Int := if dyck s = true then rkL s.data.toList (s.size / 2) (s.size / 2) else -1
/-- The letters to come: up letters u and down letters d when the height is h. -/
def ends (h u d : Nat) (l : List UInt8) : Prop := dyckFrom h l = true ∧ h + u = d ∧ l.length = u + d
theorem ends_count : ∀ (l : List UInt8) (h : Nat), dyckFrom h l = true → ∃ u d, h + u = d ∧ l.length = u + d := by
  intro l
  induction l with
  | nil => intro h hd; rw [df_nil] at hd; simp at hd; exact ⟨0, 0, by omega, rfl⟩
  | cons c l ih =>
    intro h hd
    rcases df_letter hd with ⟨e, hd'⟩ | ⟨e, h1, hd'⟩
    · obtain ⟨u, d, e1, e2⟩ := ih _ hd'
      exact ⟨u + 1, d, by omega, by rw [List.length_cons]; omega⟩
    · obtain ⟨u, d, e1, e2⟩ := ih _ hd'
      exact ⟨u, d + 1, by omega, by rw [List.length_cons]; omega⟩
theorem ends_up {h u d : Nat} {c : UInt8} {l : List UInt8} (he : ends h u d (c :: l)) (e : c.toNat = 117) : 1 ≤ u ∧ ends (h + 1) (u - 1) d l := by
  obtain ⟨h1, h2, h3⟩ := he
  rcases df_letter h1 with ⟨-, hd'⟩ | ⟨e', -, -⟩
  · obtain ⟨a, b, e1, e2⟩ := ends_count _ _ hd'
    rw [List.length_cons] at h3
    exact ⟨by omega, hd', by omega, by omega⟩
  · omega
theorem ends_down {h u d : Nat} {c : UInt8} {l : List UInt8} (he : ends h u d (c :: l)) (e : c.toNat ≠ 117) : 1 ≤ h ∧ 1 ≤ d ∧ ends (h - 1) u (d - 1) l := by
  obtain ⟨h1, h2, h3⟩ := he
  rcases df_letter h1 with ⟨e', -⟩ | ⟨-, hh, hd'⟩
  · omega
  · rw [List.length_cons] at h3
    exact ⟨hh, by omega, hd', by omega, by omega⟩
theorem ends_start {s : ByteArray} (h : dyck s = true) : ends 0 (s.size / 2) (s.size / 2) (rest s 0) := by
  have h16 := dyck_size h
  rw [dyck_short h16] at h
  obtain ⟨u, d, e1, e2⟩ := ends_count _ _ h
  have e3 : s.data.toList.length = s.size := by simp
  have e4 : (rest s 0).length = s.size := by rw [rest_zero]; exact e3
  exact ⟨h, by omega, by omega⟩

end Go.Proofs.Ytbdnelijfbnfnaa
end

section
namespace Go.Proofs.Ytbdnelijfbnfnaa
open Go.ChangeShapes Go.WideShapes Go.ChangeAt Go.RowKit
open Go.PlainAid (bt bt_nonneg bt_le get_bt)
set_option linter.unusedVariables false

def ways (u d : Nat) : Int := if 0 < u then wy (u - 1) d else 0
/-- The letters of rank k when up letters u and down letters d are to come. -/
def unrL : Nat → Nat → Nat → Int → List UInt8
  | 0, _, _, _ => []
  | f + 1, u, d, k => if d = 0 then [] else if k < ways u d then 117 :: unrL f (u - 1) d k else 100 :: unrL f u (d - 1) (k - ways u d)
theorem unrL_end (f u : Nat) (k : Int) : unrL f u 0 k = [] := by
  cases f with
  | zero => rfl
  | succ f => rw [unrL, if_pos rfl]
theorem unrL_up (f u d : Nat) (k : Int) (hd : d ≠ 0) (h : k < ways u d) : unrL (f + 1) u d k = 117 :: unrL f (u - 1) d k := by rw [unrL, if_neg hd, if_pos h]
theorem unrL_down (f u d : Nat) (k : Int) (hd : d ≠ 0) (h : ¬ k < ways u d) : unrL (f + 1) u d k = 100 :: unrL f u (d - 1) (k - ways u d) := by rw [unrL, if_neg hd, if_neg h]
def unrGood (n k : Int) : Prop := 0 ≤ n ∧ n ≤ 8 ∧ 0 ≤ k ∧ k < wy n.toNat n.toNat
instance (n k : Int) : Decidable (unrGood n k) := by unfold unrGood; infer_instance
def unrOk (n k : Int) : Bool := decide (unrGood n k)
def unrP (n k : Int) : ByteArray := if unrGood n k then ⟨(unrL (n.toNat + n.toNat) n.toNat n.toNat k).toArray⟩ else ⟨#[]⟩
theorem unr_no {n k : Int} (h : ¬ unrGood n k) : unrOk n k = false ∧ unrP n k = ⟨#[]⟩ := ⟨decide_eq_false h, if_neg h⟩
theorem unr_yes {n k : Int} (h : unrGood n k) : unrOk n k = true ∧ unrP n k = ⟨(unrL (n.toNat + n.toNat) n.toNat n.toNat k).toArray⟩ := ⟨decide_eq_true h, if_pos h⟩
theorem wy_small (q d : Nat) (hq : q ≤ 8) (hd : d ≤ 15) : 0 ≤ wy q d ∧ wy q d ≤ 4294967296 := by
  have h := wy_bd q d hd
  refine ⟨h.1, Int.le_trans h.2 ?_⟩
  have h1 : (16 : Nat) ^ q ≤ 16 ^ 8 := Nat.pow_le_pow_right (by decide) hq
  have h2 : (16 : Int) ^ q ≤ 16 ^ 8 := by exact_mod_cast h1
  exact Int.le_trans h2 (by decide)
/-- A rank that is too great for u goes on behind d. -/
theorem ways_rest (u d : Nat) (k : Int) (hd : 0 < d) (hud : u ≤ d) (h0 : 0 ≤ k) (hk : k < wy u d) (h : ¬ k < ways u d) : u ≤ d - 1 ∧ 0 ≤ k - ways u d ∧ k - ways u d < wy u (d - 1) := by
  obtain ⟨e, rfl⟩ : ∃ e, d = e + 1 := ⟨d - 1, by omega⟩
  cases u with
  | zero => rw [wy_zero] at hk; unfold ways at h ⊢; simp at h ⊢; rw [wy_zero]; omega
  | succ u =>
    have hw : ways (u + 1) (e + 1) = wy u (e + 1) := by unfold ways; rw [if_pos (by omega)]; rfl
    rw [hw] at h ⊢
    by_cases hue : u = e
    · subst hue; rw [wy_diag] at hk; omega
    · rw [wy_step _ _ (by omega)] at hk
      rw [show e + 1 - 1 = e by omega]
      omega

theorem rkL_bd : ∀ (l : List UInt8) (h u d : Nat), ends h u d l → u ≤ 8 → d ≤ 8 → 0 ≤ rkL l u d ∧ rkL l u d ≤ d * 4294967296 := by
  intro l
  induction l with
  | nil => intro h u d he hu hd; rw [rkL_nil]; omega
  | cons c l ih =>
    intro h u d he hu hd
    by_cases e : c.toNat = 117
    · obtain ⟨h1, h2⟩ := ends_up he e
      rw [rkL_up _ _ _ _ e]
      exact ih _ _ _ h2 (by omega) hd
    · obtain ⟨h1, h2, h3⟩ := ends_down he e
      have h4 := ih _ _ _ h3 hu (by omega)
      rw [rkL_down _ _ _ _ e]
      have h5 := wy_small (u - 1) d (by omega) (by omega)
      split <;> omega
theorem rankP_bd {s : ByteArray} (h : dyck s = true) : 0 ≤ rankP s ∧ rankP s ≤ 34359738368 := by
  have h16 := dyck_size h
  have h1 := rkL_bd _ _ _ _ (ends_start h) (by omega) (by omega)
  have h2 : rankP s = rkL (rest s 0) (s.size / 2) (s.size / 2) := if_pos h
  rw [h2]
  refine ⟨h1.1, Int.le_trans h1.2 ?_⟩
  omega
def nextOk (s : ByteArray) : Bool := if dyck s = true then unrOk ((s.size / 2 : Nat) : Int) (rankP s + 1) else false
def nextP (s : ByteArray) : ByteArray := if dyck s = true then unrP ((s.size / 2 : Nat) : Int) (rankP s + 1) else ⟨#[]⟩

end Go.Proofs.Ytbdnelijfbnfnaa
end

section
namespace Go.Proofs.Ytbdnelijfbnfnaa
open Go.RowKit
set_option linter.unusedVariables false

/-- The first word of up letters u and down letters d to come. -/
def frL (u d : Nat) : List UInt8 := Lib.repeatL [117] u ++ Lib.repeatL [100] d
theorem frL_up (u d : Nat) : frL (u + 1) d = 117 :: frL u d := rfl
theorem frL_none (d : Nat) : frL 0 (d + 1) = 100 :: frL 0 d := rfl
theorem frL_len (u d : Nat) : (frL u d).length = u + d := by unfold frL; rw [List.length_append, Lib.repeatL_length, Lib.repeatL_length]; simp
/-- The next word behind the letters l, where there is one. -/
def nxL : List UInt8 → Nat → Nat → Option (List UInt8)
  | [], _, _ => none
  | c :: l, u, d => if c.toNat = 117 then (match nxL l (u - 1) d with | some x => some (117 :: x) | none => if u < d then some (100 :: frL u (d - 1)) else none) else (match nxL l u (d - 1) with | some x => some (100 :: x) | none => none)
theorem nxL_up (c : UInt8) (l : List UInt8) (u d : Nat) (e : c.toNat = 117) : nxL (c :: l) u d = (match nxL l (u - 1) d with | some x => some (117 :: x) | none => if u < d then some (100 :: frL u (d - 1)) else none) := by rw [nxL, if_pos e]
theorem nxL_down (c : UInt8) (l : List UInt8) (u d : Nat) (e : c.toNat ≠ 117) : nxL (c :: l) u d = (match nxL l u (d - 1) with | some x => some (100 :: x) | none => none) := by rw [nxL, if_neg e]

theorem wy_pos : ∀ (u d : Nat), u ≤ d → 0 < wy u d := by
  intro u
  induction u with
  | zero => intro d _; rw [wy_zero]; decide
  | succ u ih =>
    intro d hd
    obtain ⟨e, rfl⟩ : ∃ e, d = e + 1 := ⟨d - 1, by omega⟩
    induction e with
    | zero =>
      obtain rfl : u = 0 := by omega
      rw [wy_diag]; exact ih _ (by omega)
    | succ e ihe =>
      by_cases h : u + 1 = e + 1 + 1
      · rw [h, show e + 1 + 1 = (e + 1) + 1 by omega]
        obtain rfl : u = e + 1 := by omega
        rw [wy_diag]; exact ih _ (by omega)
      · rw [wy_step _ _ (by omega)]
        have h1 := ih (e + 1 + 1) (by omega)
        have h2 := ihe (by omega)
        omega
/-- The words begin with u or with d. -/
theorem wy_split (u d : Nat) (hd : 0 < d) (hud : u ≤ d) : wy u d = ways u d + if u < d then wy u (d - 1) else 0 := by
  obtain ⟨e, rfl⟩ : ∃ e, d = e + 1 := ⟨d - 1, by omega⟩
  rw [show e + 1 - 1 = e by omega]
  cases u with
  | zero => rw [wy_zero, wy_zero]; unfold ways; simp
  | succ u =>
    have hw : ways (u + 1) (e + 1) = wy u (e + 1) := by unfold ways; rw [if_pos (by omega)]; rfl
    rw [hw]
    by_cases hue : u = e
    · subst hue; rw [wy_diag, if_neg (by omega)]; omega
    · rw [wy_step _ _ (by omega), if_pos (by omega)]
theorem ways_up (u d : Nat) (h : 0 < u) : ways u d = wy (u - 1) d := by unfold ways; rw [if_pos h]
theorem unr_first : ∀ (f u d : Nat), u + d = f → u ≤ d → unrL f u d 0 = frL u d := by
  intro f
  induction f with
  | zero =>
    intro u d h _
    obtain rfl : u = 0 := by omega
    obtain rfl : d = 0 := by omega
    rw [unrL_end]; rfl
  | succ f ih =>
    intro u d h hud
    cases u with
    | zero =>
      obtain ⟨e, rfl⟩ : ∃ e, d = e + 1 := ⟨d - 1, by omega⟩
      have h1 := unrL_down f 0 (e + 1) 0 (by omega) (by unfold ways; simp)
      rw [h1, show (0 : Int) - ways 0 (e + 1) = 0 by unfold ways; simp, show e + 1 - 1 = e by omega, ih 0 e (by omega) (by omega), frL_none]
    | succ u =>
      have hw := ways_up (u + 1) d (by omega)
      have hp := wy_pos u d (by omega)
      rw [show u + 1 - 1 = u by omega] at hw
      rw [unrL_up f (u + 1) d 0 (by omega) (by rw [hw]; exact hp), show u + 1 - 1 = u by omega, ih u d (by omega) (by omega), frL_up]
/-- What the next word is, by the ranks. -/
theorem nx_rank : ∀ (l : List UInt8) (h u d : Nat), ends h u d l → u ≤ 8 → d ≤ 8 → (nxL l u d = none → rkL l u d + 1 = wy u d) ∧ (∀ x, nxL l u d = some x → rkL l u d + 1 < wy u d ∧ unrL (u + d) u d (rkL l u d + 1) = x) := by
  intro l
  induction l with
  | nil =>
    intro h u d he hu8 hd8
    obtain ⟨-, h2, h3⟩ := he
    simp only [List.length_nil] at h3
    have hu0 : u = 0 := by omega
    have hd0 : d = 0 := by omega
    subst hu0 hd0
    exact ⟨fun _ => (by rw [rkL_nil, wy_zero]; rfl), fun x hx => (by rw [nxL] at hx; cases hx)⟩
  | cons c l ih =>
    intro h u d he hu8 hd8
    have hud : u ≤ d := by have := he.2.1; omega
    have hlen := he.2.2
    rw [List.length_cons] at hlen
    by_cases e : c.toNat = 117
    · obtain ⟨hu, he'⟩ := ends_up he e
      obtain ⟨i1, i2⟩ := ih _ _ _ he' (by omega) hd8
      rw [nxL_up _ _ _ _ e, rkL_up _ _ _ _ e]
      have hw := ways_up u d (by omega)
      have hsp := wy_split u d (by omega) hud
      rcases hx : nxL l (u - 1) d with _ | y
      · have hr := i1 hx
        refine ⟨fun hn => ?_, fun x hx' => ?_⟩
        · by_cases hlt : u < d
          · simp [hlt] at hn
          · rw [hsp, if_neg hlt, hw, hr]; omega
        · by_cases hlt : u < d
          · simp only [hlt, if_true, Option.some.injEq] at hx'
            subst hx'
            have hp := wy_pos u (d - 1) (by omega)
            refine ⟨by rw [hsp, if_pos hlt, hw, hr]; omega, ?_⟩
            rw [show u + d = (u + d - 1) + 1 by omega, hr, ← hw, unrL_down _ _ _ _ (by omega) (by omega), show ways u d - ways u d = 0 by omega, show u + d - 1 = u + (d - 1) by omega, unr_first _ _ _ rfl (by omega)]
          · simp [hlt] at hx'
      · obtain ⟨r1, r2⟩ := i2 y hx
        refine ⟨fun hn => by simp at hn, fun x hx' => ?_⟩
        simp only [Option.some.injEq] at hx'
        subst hx'
        have h0 : 0 ≤ (if u < d then wy u (d - 1) else 0) := by
          split
          · have := wy_pos u (d - 1) (by omega); omega
          · omega
        refine ⟨by rw [hsp, hw]; omega, ?_⟩
        rw [show u + d = (u - 1 + d) + 1 by omega, unrL_up _ _ _ _ (by omega) (by rw [hw]; exact r1), r2]
    · obtain ⟨hh, hd1, he'⟩ := ends_down he e
      have hlt : u < d := by have := he.2.1; omega
      obtain ⟨i1, i2⟩ := ih _ _ _ he' hu8 (by omega)
      have hsp := wy_split u d (by omega) hud
      rw [if_pos hlt] at hsp
      have hrk : rkL (c :: l) u d = ways u d + rkL l u (d - 1) := rkL_down c l u d e
      rw [nxL_down _ _ _ _ e, hrk]
      rcases hx : nxL l u (d - 1) with _ | y
      · have hr := i1 hx
        exact ⟨fun _ => (by rw [hsp, ← hr]; omega), fun x hx' => (by cases hx')⟩
      · obtain ⟨r1, r2⟩ := i2 y hx
        refine ⟨fun hn => (by cases hn), fun x hx' => ?_⟩
        simp only [Option.some.injEq] at hx'
        subst hx'
        have hr0 := (rkL_bd l _ _ _ he' hu8 (by omega)).1
        refine ⟨by rw [hsp]; omega, ?_⟩
        rw [show u + d = (u + (d - 1)) + 1 by omega, unrL_down _ _ _ _ (by omega) (by omega), show ways u d + rkL l u (d - 1) + 1 - ways u d = rkL l u (d - 1) + 1 by omega, r2]

end Go.Proofs.Ytbdnelijfbnfnaa
end

section
namespace Go.Proofs.Ytbdnelijfbnfnaa
open Go.RowKit
set_option linter.unusedVariables false

theorem rep_str {a b : ByteArray} (h : a = b) : Ending.returned (.string a) = .returned (.string b) := by rw [h]
set_option maxHeartbeats 2000000 in
set_option maxRecDepth 100000 in
theorem writeString (B b : Nat) (bs : List Value) (s : ByteArray) (w : World) (h : Lib.IsBuilderF 64 5 B b bs w) (hlen : bs.length + s.size ≤ 140737488355328) (hBw : B ≤ w.heap.size) :
    Calls Try.prog 53 #[.pointer (some ⟨b, 0, none⟩), .string s] w fun e w' => e = .returned (.tuple #[.int .i64 s.size, .nilIface]) ∧ (Lib.BuilderAtF 64 5 B b (.pointer (some ⟨b, 0, none⟩)) (bs ++ Lib.strCells s) w' ∧ Below B w w' ∧ Lib.OthersKept 5 (some b) w w') := by
  obtain ⟨i0, hi, hz0, hz1, hz2⟩ := info_parts bld_byte
  go_enter Try.func53, Try.ntmps53
  go_wp2_with (go_at_call 68; refine (copyCheck B b bs _ h).mono ?_)
  rintro e w1 ⟨rfl, h1, hb1, hk1⟩
  obtain ⟨hB, v, hbk, hown, hne⟩ := h1
  have c0 : w1.cell? ⟨b, 0, none⟩ = some (.pointer (some ⟨b, 0, none⟩)) := by rw [Lib.cell_of_heap hbk]; rfl
  have c1 : w1.cell? ⟨b, 1, none⟩ = some v := by rw [Lib.cell_of_heap hbk]; rfl
  go_wp2_with (at_builtin; refine Lib.wpList_append_own_stringF _ rfl _ _ 22 9 rfl B 5 i0 Try.underlying22 Try.underlying9 hi hz0 hz1 hz2 _ _ _ rfl hown s rfl ?c3 ?c4 ?c5 ?_)
  case c3 => unfold maxLen; omega
  case c4 => omega
  case c5 => have := hb1.size; omega
  intro v' w2 hown' hgrow _
  have hlt : b < w1.heap.size := by
    rcases Nat.lt_or_ge b w1.heap.size with h' | h'
    · exact h'
    · simp [Array.getElem?_eq_none h'] at hbk
  have hb2 : w2.heap[b]? = some (.cells #[.pointer (some ⟨b, 0, none⟩), v] 64 (0, 0)) := by
    rw [hgrow.block b hlt (fun e => hne e.symm)]
    exact hbk
  have d0 : w2.cell? ⟨b, 0, none⟩ = some (.pointer (some ⟨b, 0, none⟩)) := by rw [Lib.cell_of_heap hb2]; rfl
  have d1 : w2.cell? ⟨b, 1, none⟩ = some v := by rw [Lib.cell_of_heap hb2]; rfl
  have f1 : w2.frozen? ⟨b, 1, none⟩ = false := Lib.frozen_of_heap hb2 1
  obtain ⟨ao, n', cap, rfl⟩ : ∃ ao n' cap, v' = .slice ao n' cap := by
    rcases hown'.2 with ⟨hv, _⟩ | ⟨g, cap, cur, fz, hv, _⟩
    · exact ⟨_, _, _, hv⟩
    · exact ⟨_, _, _, hv⟩
  go_wp2
  go_ret2
  refine ⟨rfl, ?_, ?_, (hk1.grown hgrow (Lib.ownsRowF_kind hown)).setCell ⟨b, 1, none⟩ rfl _⟩
  · exact Lib.BuilderAtF.put (T := 64) (e := 5) hB hb2 (bs' := bs ++ Lib.strCells s) (by simpa [Lib.strCells_length] using hown') (by decide)
  · exact (hb1.grown hgrow (by have := hb1.size; omega) (fun k hk => (hown.lt k hk).1)).setCell (p := ⟨b, 1, none⟩) hB _


set_option maxHeartbeats 1600000 in
set_option maxRecDepth 1000000 in
theorem repeatU (c : Nat) (w : World) (hc2 : 2 ≤ c) (hc : c ≤ 8) :
    Calls Try.prog 34 #[.string ⟨#[117]⟩, .int .i64 c] w fun e w' => e = .returned (.string ⟨(Lib.repeatL [117] c).toArray⟩) ∧ Below w.heap.size w w' := by
  have hMul := Try.bits_Mul 1 c (by omega) (by omega) w
  rw [Nat.one_mul, Nat.div_eq_of_lt (by omega : c < 18446744073709551616), Nat.mod_eq_of_lt (by omega : c < 18446744073709551616)] at hMul
  have e0 : ((c : Int) == 0) = false := beq_eq_false_iff_ne.2 (by omega)
  have e1 : ((c : Int) == 1) = false := beq_eq_false_iff_ne.2 (by omega)
  have t32 : ((((⟨#[117]⟩ : ByteArray)[0]'(by decide)).toNat : Int) == 32) = false := by decide
  have t45 : ((((⟨#[117]⟩ : ByteArray)[0]'(by decide)).toNat : Int) == 45) = false := by decide
  have t48 : ((((⟨#[117]⟩ : ByteArray)[0]'(by decide)).toNat : Int) == 48) = false := by decide
  have t61 : ((((⟨#[117]⟩ : ByteArray)[0]'(by decide)).toNat : Int) == 61) = false := by decide
  have t9 : ((((⟨#[117]⟩ : ByteArray)[0]'(by decide)).toNat : Int) == 9) = false := by decide
  have HM := Lib.hid hMul
  clear hMul
  go_enter Try.func34, Try.ntmps34
  go_wp2_with (go_at_call 50; refine HM.out.mono ?_; rintro e w' ⟨rfl, hw⟩; rw [hw])
  have b0 : Below w.heap.size w (w.alloc (.cells #[.pointer none, .slice none 0 0] 64)) := (Below.refl _ w).alloc (Nat.le_refl _) _
  refine (Try.Builder_Grow_fresh w.heap.size w.heap.size c (w.alloc (.cells #[.pointer none, .slice none 0 0] 64)) (Nat.le_refl _) (heap_alloc_new w _) b0.size (by omega)).mono ?_
  rintro e W1 ⟨rfl, h1, b1⟩
  go_wp2_with fail
  refine (writeString w.heap.size w.heap.size [] ⟨#[117]⟩ W1 (Lib.IsBuilderF.of (Or.inr h1)) (by decide) (Nat.le_trans b0.size b1.size)).mono ?_
  rintro e W2 ⟨rfl, h2, b2, -⟩
  have H2 := Lib.hid (show Lib.IsBuilderF 64 5 w.heap.size w.heap.size (Lib.byteCells (Lib.repeatL [117] 1)) W2 by
    rw [List.nil_append, Lib.strCells_eq] at h2
    rw [Lib.repeatL_one]
    exact Or.inr h2)
  have HB := Lib.hid (show Below w.heap.size w W2 from b0.trans (b1.trans b2))
  clear h1 h2 b0 b1 b2
  go_wp2_with fail
  go_loopg [] (c - 1) (fun g wx => ∃ q : Nat, 1 ≤ q ∧ q + g = c ∧ Lib.IsBuilderF 64 5 w.heap.size w.heap.size (Lib.byteCells (Lib.repeatL [117] q)) wx ∧ Below w.heap.size w wx)
  case atStart => exact ⟨1, Nat.le_refl _, by omega, H2.out, HB.out⟩
  case round =>
    obtain ⟨q, hq1, hqg, hB, hbx⟩ := hrel
    have hlq : (Lib.byteCells (Lib.repeatL [117] q)).length = q := by rw [Lib.byteCells_length, Lib.repeatL_length]; simp
    have cLen := Try.Builder_Len_f w.heap.size w.heap.size _ wr hB
    rw [hlq] at cLen
    have HLEN := Lib.hid cLen
    have HLQ := Lib.hid hlq
    obtain ⟨S, hS⟩ : ∃ S : ByteArray, (⟨(Lib.repeatL [117] q).toArray⟩ : ByteArray) = S := ⟨_, rfl⟩
    have hSd : S.data.toList = Lib.repeatL [117] q := by rw [← hS]
    have hSz : S.size = q := by rw [Lib.size_eq, hSd, Lib.repeatL_length]; simp
    have cStr := Try.Builder_String_any_f w.heap.size w.heap.size (Lib.repeatL [117] q) wr hB hbx.size
    rw [hS] at cStr
    have HSTR := Lib.hid cStr
    have HS := Lib.hid hS
    have HSD := Lib.hid hSd
    have HBX := Lib.hid hbx
    have hszx := hbx.size
    clear hS hSd cStr cLen hlq hB hbx
    rcases Nat.eq_zero_or_pos gk with hg0 | hg0
    · obtain rfl : q = c := by omega
      have hqq : decide ((q : Int) < (q : Int)) = false := by simp
      clear hg0 hqg
      go_wp2_with (first
        | (go_at_call 54; refine HLEN.out.mono ?_; rintro e w' ⟨rfl, hw⟩; rw [hw])
        | (go_at_call 55; refine HSTR.out.mono ?_; rintro e W3 ⟨rfl, h3, b3⟩))
      go_ret
      exact ⟨rep_str HS.out.symm, HBX.out.trans b3⟩
    · obtain ⟨k, hk1, hkq, hkc, hmin⟩ := Lib.chunk_ok c q c 1 hq1 (by omega) (by omega)
      have hqc : (q : Int) < (c : Int) := by omega
      have hmin3 : ∀ (ts : Array TypeId) (t : TypeId) (W : World), (Builtin.min_ ts t #[.int .i64 ((c : Int) - (q : Int)), .int .i64 (q : Int), .int .i64 (c : Int)]).run Try.prog W = .ok (.int .i64 (k : Int)) W := fun ts t W => by
        rw [run_min_int3]
        congr 2
        have : min (min (c * 1 - q * 1) (q * 1)) (c * 1) = k * 1 := hmin
        omega
      have hkS : (k : Int) ≤ (S.size : Int) := by omega
      clear hmin
      go_wp2_with (first
        | (go_at_call 54; refine HLEN.out.mono ?_; rintro e w' ⟨rfl, hw⟩; rw [hw])
        | (go_at_call 55; refine HSTR.out.mono ?_; rintro e W3 ⟨rfl, h3, b3⟩))
      refine (writeString w.heap.size w.heap.size _ (S.extract 0 k) W3 h3 (by rw [HLQ.out, ByteArray.size_extract]; omega) (Nat.le_trans hszx b3.size)).mono ?_
      rintro e W4 ⟨rfl, h4, b4, -⟩
      have H4 := Lib.hid (show Lib.BuilderAtF 64 5 w.heap.size w.heap.size (.pointer (some ⟨w.heap.size, 0, none⟩)) (Lib.byteCells (Lib.repeatL [117] (q + k))) W4 by
        have hst := Lib.step_ok [117] q k hkq
        simp only [List.length_cons, List.length_nil, Nat.zero_add, Nat.mul_one] at hst
        rw [Lib.strCells_eq, ← Lib.byteCells_append, Lib.extract_data, HSD.out] at h4
        simp only [List.drop_zero, Nat.sub_zero] at h4
        rw [hst] at h4
        exact h4)
      have HB4 := Lib.hid (b3.trans b4)
      clear h3 h4 b3 b4
      go_wp2_with fail
      go_roundg (c - (q + k))
      case measure => omega
      case rel => exact ⟨q + k, by omega, by omega, Or.inr H4.out, HBX.out.trans HB4.out⟩


set_option maxHeartbeats 1600000 in
set_option maxRecDepth 1000000 in
theorem repeatD (c : Nat) (w : World) (hc2 : 2 ≤ c) (hc : c ≤ 8) :
    Calls Try.prog 34 #[.string ⟨#[100]⟩, .int .i64 c] w fun e w' => e = .returned (.string ⟨(Lib.repeatL [100] c).toArray⟩) ∧ Below w.heap.size w w' := by
  have hMul := Try.bits_Mul 1 c (by omega) (by omega) w
  rw [Nat.one_mul, Nat.div_eq_of_lt (by omega : c < 18446744073709551616), Nat.mod_eq_of_lt (by omega : c < 18446744073709551616)] at hMul
  have e0 : ((c : Int) == 0) = false := beq_eq_false_iff_ne.2 (by omega)
  have e1 : ((c : Int) == 1) = false := beq_eq_false_iff_ne.2 (by omega)
  have t32 : ((((⟨#[100]⟩ : ByteArray)[0]'(by decide)).toNat : Int) == 32) = false := by decide
  have t45 : ((((⟨#[100]⟩ : ByteArray)[0]'(by decide)).toNat : Int) == 45) = false := by decide
  have t48 : ((((⟨#[100]⟩ : ByteArray)[0]'(by decide)).toNat : Int) == 48) = false := by decide
  have t61 : ((((⟨#[100]⟩ : ByteArray)[0]'(by decide)).toNat : Int) == 61) = false := by decide
  have t9 : ((((⟨#[100]⟩ : ByteArray)[0]'(by decide)).toNat : Int) == 9) = false := by decide
  have HM := Lib.hid hMul
  clear hMul
  go_enter Try.func34, Try.ntmps34
  go_wp2_with (go_at_call 50; refine HM.out.mono ?_; rintro e w' ⟨rfl, hw⟩; rw [hw])
  have b0 : Below w.heap.size w (w.alloc (.cells #[.pointer none, .slice none 0 0] 64)) := (Below.refl _ w).alloc (Nat.le_refl _) _
  refine (Try.Builder_Grow_fresh w.heap.size w.heap.size c (w.alloc (.cells #[.pointer none, .slice none 0 0] 64)) (Nat.le_refl _) (heap_alloc_new w _) b0.size (by omega)).mono ?_
  rintro e W1 ⟨rfl, h1, b1⟩
  go_wp2_with fail
  refine (writeString w.heap.size w.heap.size [] ⟨#[100]⟩ W1 (Lib.IsBuilderF.of (Or.inr h1)) (by decide) (Nat.le_trans b0.size b1.size)).mono ?_
  rintro e W2 ⟨rfl, h2, b2, -⟩
  have H2 := Lib.hid (show Lib.IsBuilderF 64 5 w.heap.size w.heap.size (Lib.byteCells (Lib.repeatL [100] 1)) W2 by
    rw [List.nil_append, Lib.strCells_eq] at h2
    rw [Lib.repeatL_one]
    exact Or.inr h2)
  have HB := Lib.hid (show Below w.heap.size w W2 from b0.trans (b1.trans b2))
  clear h1 h2 b0 b1 b2
  go_wp2_with fail
  go_loopg [] (c - 1) (fun g wx => ∃ q : Nat, 1 ≤ q ∧ q + g = c ∧ Lib.IsBuilderF 64 5 w.heap.size w.heap.size (Lib.byteCells (Lib.repeatL [100] q)) wx ∧ Below w.heap.size w wx)
  case atStart => exact ⟨1, Nat.le_refl _, by omega, H2.out, HB.out⟩
  case round =>
    obtain ⟨q, hq1, hqg, hB, hbx⟩ := hrel
    have hlq : (Lib.byteCells (Lib.repeatL [100] q)).length = q := by rw [Lib.byteCells_length, Lib.repeatL_length]; simp
    have cLen := Try.Builder_Len_f w.heap.size w.heap.size _ wr hB
    rw [hlq] at cLen
    have HLEN := Lib.hid cLen
    have HLQ := Lib.hid hlq
    obtain ⟨S, hS⟩ : ∃ S : ByteArray, (⟨(Lib.repeatL [100] q).toArray⟩ : ByteArray) = S := ⟨_, rfl⟩
    have hSd : S.data.toList = Lib.repeatL [100] q := by rw [← hS]
    have hSz : S.size = q := by rw [Lib.size_eq, hSd, Lib.repeatL_length]; simp
    have cStr := Try.Builder_String_any_f w.heap.size w.heap.size (Lib.repeatL [100] q) wr hB hbx.size
    rw [hS] at cStr
    have HSTR := Lib.hid cStr
    have HS := Lib.hid hS
    have HSD := Lib.hid hSd
    have HBX := Lib.hid hbx
    have hszx := hbx.size
    clear hS hSd cStr cLen hlq hB hbx
    rcases Nat.eq_zero_or_pos gk with hg0 | hg0
    · obtain rfl : q = c := by omega
      have hqq : decide ((q : Int) < (q : Int)) = false := by simp
      clear hg0 hqg
      go_wp2_with (first
        | (go_at_call 54; refine HLEN.out.mono ?_; rintro e w' ⟨rfl, hw⟩; rw [hw])
        | (go_at_call 55; refine HSTR.out.mono ?_; rintro e W3 ⟨rfl, h3, b3⟩))
      go_ret
      exact ⟨rep_str HS.out.symm, HBX.out.trans b3⟩
    · obtain ⟨k, hk1, hkq, hkc, hmin⟩ := Lib.chunk_ok c q c 1 hq1 (by omega) (by omega)
      have hqc : (q : Int) < (c : Int) := by omega
      have hmin3 : ∀ (ts : Array TypeId) (t : TypeId) (W : World), (Builtin.min_ ts t #[.int .i64 ((c : Int) - (q : Int)), .int .i64 (q : Int), .int .i64 (c : Int)]).run Try.prog W = .ok (.int .i64 (k : Int)) W := fun ts t W => by
        rw [run_min_int3]
        congr 2
        have : min (min (c * 1 - q * 1) (q * 1)) (c * 1) = k * 1 := hmin
        omega
      have hkS : (k : Int) ≤ (S.size : Int) := by omega
      clear hmin
      go_wp2_with (first
        | (go_at_call 54; refine HLEN.out.mono ?_; rintro e w' ⟨rfl, hw⟩; rw [hw])
        | (go_at_call 55; refine HSTR.out.mono ?_; rintro e W3 ⟨rfl, h3, b3⟩))
      refine (writeString w.heap.size w.heap.size _ (S.extract 0 k) W3 h3 (by rw [HLQ.out, ByteArray.size_extract]; omega) (Nat.le_trans hszx b3.size)).mono ?_
      rintro e W4 ⟨rfl, h4, b4, -⟩
      have H4 := Lib.hid (show Lib.BuilderAtF 64 5 w.heap.size w.heap.size (.pointer (some ⟨w.heap.size, 0, none⟩)) (Lib.byteCells (Lib.repeatL [100] (q + k))) W4 by
        have hst := Lib.step_ok [100] q k hkq
        simp only [List.length_cons, List.length_nil, Nat.zero_add, Nat.mul_one] at hst
        rw [Lib.strCells_eq, ← Lib.byteCells_append, Lib.extract_data, HSD.out] at h4
        simp only [List.drop_zero, Nat.sub_zero] at h4
        rw [hst] at h4
        exact h4)
      have HB4 := Lib.hid (b3.trans b4)
      clear h3 h4 b3 b4
      go_wp2_with fail
      go_roundg (c - (q + k))
      case measure => omega
      case rel => exact ⟨q + k, by omega, by omega, Or.inr H4.out, HBX.out.trans HB4.out⟩


set_option maxRecDepth 1000000 in
theorem repeat_zero (s : ByteArray) (w : World) : Calls Try.prog 34 #[.string s, .int .i64 0] w fun e w' => e = .returned (.string ⟨#[]⟩) ∧ w = w' := by
  go_enter Try.func34, Try.ntmps34
  go_wp2
  go_ret
  exact ⟨rfl, rfl⟩
set_option maxRecDepth 1000000 in
theorem repeat_one (s : ByteArray) (w : World) : Calls Try.prog 34 #[.string s, .int .i64 1] w fun e w' => e = .returned (.string s) ∧ w = w' := by
  go_enter Try.func34, Try.ntmps34
  go_wp2
  go_ret
  exact ⟨rfl, rfl⟩
/-- k letters c. -/
def repS (c : UInt8) (k : Nat) : ByteArray := ⟨(Lib.repeatL [c] k).toArray⟩
theorem repU (c : Nat) (w : World) (hc : c ≤ 8) : Calls Try.prog 34 #[.string ⟨#[117]⟩, .int .i64 c] w fun e w' => e = .returned (.string (repS 117 c)) ∧ Below w.heap.size w w' := by
  by_cases h0 : c = 0
  · subst h0; exact (repeat_zero _ w).mono fun _ _ h => ⟨h.1, h.2 ▸ Below.refl _ _⟩
  by_cases h1 : c = 1
  · subst h1; exact (repeat_one _ w).mono fun _ _ h => ⟨h.1, h.2 ▸ Below.refl _ _⟩
  exact repeatU c w (by omega) hc
theorem repD (c : Nat) (w : World) (hc : c ≤ 8) : Calls Try.prog 34 #[.string ⟨#[100]⟩, .int .i64 c] w fun e w' => e = .returned (.string (repS 100 c)) ∧ Below w.heap.size w w' := by
  by_cases h0 : c = 0
  · subst h0; exact (repeat_zero _ w).mono fun _ _ h => ⟨h.1, h.2 ▸ Below.refl _ _⟩
  by_cases h1 : c = 1
  · subst h1; exact (repeat_one _ w).mono fun _ _ h => ⟨h.1, h.2 ▸ Below.refl _ _⟩
  exact repeatD c w (by omega) hc

end Go.Proofs.Ytbdnelijfbnfnaa
end

section
namespace Go.Proofs.Ytbdnelijfbnfnaa
open Go.RowKit
set_option linter.unusedVariables false

theorem rest_extract (s : ByteArray) (b : Nat) : (s.extract b s.size).data.toList = rest s b := by
  unfold rest
  rw [ByteArray.data_extract, Array.toList_extract]
  unfold List.extract
  rw [List.take_of_length_le (by simp)]
theorem size_part (s : ByteArray) (b : Nat) (h : b ≤ s.size) : (s.extract b s.size).size = s.size - b := by rw [ByteArray.size_extract]; omega
theorem extract_front (s : ByteArray) (b e : Nat) (h : b + e ≤ s.size) : (s.extract b s.size).extract 0 e = s.extract b (b + e) := by
  apply ByteArray.ext
  rw [ByteArray.data_extract, ByteArray.data_extract, ByteArray.data_extract, Array.extract_extract]
  have : s.data.size = s.size := rfl
  congr 1; omega
theorem extract_back (s : ByteArray) (b e : Nat) (h : b + e ≤ s.size) : (s.extract b s.size).extract e (s.extract b s.size).size = s.extract (b + e) s.size := by
  apply ByteArray.ext
  rw [ByteArray.data_extract, ByteArray.data_extract, ByteArray.data_extract, Array.extract_extract]
  have : s.data.size = s.size := rfl
  rw [ByteArray.size_extract]
  congr 1; omega
theorem extract_whole (s : ByteArray) : s.extract 0 s.size = s := by
  apply ByteArray.ext
  rw [ByteArray.data_extract]
  have : s.data.size = s.size := rfl
  rw [← this, Array.extract_size]

/-- Where the walk along s stands: at place i, at height h, the current part begun at b, the parts acc behind it. -/
structure PrAt (s : ByteArray) (i h b : Nat) (acc : List ByteArray) : Prop where
  le : b ≤ i
  top : i ≤ s.size
  zero : h = 0 → b = i
  path : dyckFrom h (rest s i) = true
  begun : dyckFrom 0 (rest s b) = true
  cut : cutL 0 (rest s b) 0 = cutL h (rest s i) (i - b)
  len : acc.length ≤ b
  high : h ≤ i
  more : ∃ m, s.size - b < m ∧ acc ++ primesF m (s.extract b s.size) = primesP s
  count : acc.length + zeros (hsL h (rest s i)) + (if h = 0 then 0 else 1) = zeros (hsL 0 s.data.toList)
theorem PrAt.start {s : ByteArray} (hd : dyck s = true) : PrAt s 0 0 0 [] where
  le := Nat.le_refl _
  top := Nat.zero_le _
  zero := fun _ => rfl
  path := by rw [dyck_short (dyck_size hd)] at hd; exact hd
  begun := by rw [dyck_short (dyck_size hd)] at hd; exact hd
  cut := rfl
  len := Nat.le_refl _
  high := Nat.le_refl _
  more := ⟨s.size + 1, by omega, by rw [extract_whole]; rfl⟩
  count := by rw [rest_zero]; simp
theorem PrAt.up {s : ByteArray} {i h b : Nat} {acc : List ByteArray} (p : PrAt s i h b acc) (hi : i < s.size) (e : s[i].toNat = 117) : PrAt s (i + 1) (h + 1) b acc where
  le := by have := p.le; omega
  top := hi
  zero := by omega
  path := by
    have := p.path
    rwa [rest_cons s i hi, df_up _ _ _ e] at this
  begun := p.begun
  cut := by
    rw [p.cut, rest_cons s i hi, cutL_miss _ _ _ _ (by rw [if_pos e]; omega), if_pos e]
    have := p.le
    congr 1; omega
  len := p.len
  high := by have := p.high; omega
  more := p.more
  count := by
    have := p.count
    rw [rest_cons s i hi, hsL_up _ _ _ e, zeros] at this
    rw [← this, if_neg (by omega)]
    have e1 : ((h + 1 : Nat) : Int) = (h : Int) + 1 := by omega
    rw [e1]
    by_cases h0 : h = 0
    · rw [if_pos (by omega), if_pos h0]; omega
    · rw [if_neg (by omega), if_neg h0]; omega
theorem PrAt.below {s : ByteArray} {i h b : Nat} {acc : List ByteArray} (p : PrAt s i h b acc) (hi : i < s.size) (e : s[i].toNat = 100) : 1 ≤ h := by
  have := p.path
  rw [rest_cons s i hi] at this
  rcases df_letter this with ⟨e', -⟩ | ⟨-, h1, -⟩
  · omega
  · exact h1
theorem PrAt.down {s : ByteArray} {i h b : Nat} {acc : List ByteArray} (p : PrAt s i (h + 2) b acc) (hi : i < s.size) (e : s[i].toNat = 100) : PrAt s (i + 1) (h + 1) b acc where
  le := by have := p.le; omega
  top := hi
  zero := by omega
  path := by
    have := p.path
    rwa [rest_cons s i hi, df_down _ _ _ e] at this
  begun := p.begun
  cut := by
    rw [p.cut, rest_cons s i hi, cutL_miss _ _ _ _ (by rw [if_neg (by omega)]; omega), if_neg (by omega)]
    have := p.le
    rw [show ((h + 2 : Nat) : Int) - 1 = ((h + 1 : Nat) : Int) by omega]
    congr 1; omega
  len := p.len
  high := by have := p.high; omega
  more := p.more
  count := by
    have := p.count
    rw [rest_cons s i hi, hsL_down _ _ _ (by omega), zeros, if_neg (by omega), if_neg (by omega)] at this
    rw [← this, if_neg (by omega)]
    have e1 : ((h + 2 : Nat) : Int) - 1 = ((h + 1 : Nat) : Int) := by omega
    rw [e1]; omega
theorem PrAt.hit {s : ByteArray} {i b : Nat} {acc : List ByteArray} (hs : s.size ≤ 16) (p : PrAt s i 1 b acc) (hi : i < s.size) (e : s[i].toNat = 100) : PrAt s (i + 1) 0 (i + 1) (acc ++ [s.extract b (i + 1)]) where
  le := Nat.le_refl _
  top := hi
  zero := fun _ => rfl
  path := by
    have := p.path
    rwa [rest_cons s i hi, df_down _ _ _ e] at this
  begun := by
    have := p.path
    rwa [rest_cons s i hi, df_down _ _ _ e] at this
  cut := by simp
  len := by
    have := p.len; have := p.le
    rw [List.length_append, List.length_singleton]; omega
  high := by omega
  more := by
    obtain ⟨m, hm, he⟩ := p.more
    have hle := p.le
    obtain ⟨m, rfl⟩ : ∃ k, m = k + 1 := ⟨m - 1, by omega⟩
    have hdk : dyck (s.extract b s.size) = true := by
      rw [dyck_short (by rw [size_part _ _ (by omega)]; omega), rest_extract]; exact p.begun
    have hcut : cutP (s.extract b s.size) = ((i - b : Nat) : Int) := by
      unfold cutP
      rw [rest_extract, p.cut, rest_cons s i hi]
      exact cutL_hit _ _ _ _ (by rw [if_neg (by omega)]; rfl)
    refine ⟨m, by omega, ?_⟩
    rw [← he, primesF_yes m _ ⟨hdk, by rw [size_part _ _ (by omega)]; omega⟩, hcut]
    rw [show ((i - b : Nat) : Int).toNat + 1 = i + 1 - b by omega]
    rw [extract_front _ _ _ (by omega), extract_back _ _ _ (by omega), show b + (i + 1 - b) = i + 1 by omega]
    simp
  count := by
    have := p.count
    rw [rest_cons s i hi, hsL_down _ _ _ (by omega), zeros, if_neg (by omega), if_neg (by omega)] at this
    rw [← this, List.length_append, List.length_singleton]
    have e1 : ((1 : Nat) : Int) - 1 = ((0 : Nat) : Int) := rfl
    rw [e1]; simp; omega
theorem PrAt.stop {s : ByteArray} {h b : Nat} {acc : List ByteArray} (p : PrAt s s.size h b acc) : acc = primesP s ∧ (acc.length : Int) + 1 = zeros (hsL 0 s.data.toList) := by
  have h1 := p.path
  rw [rest_end s _ (Nat.le_refl _), df_nil] at h1
  have h0 : h = 0 := by simpa using h1
  have hb := p.zero h0
  obtain ⟨m, hm, he⟩ := p.more
  rw [primesF_no _ _ (by rw [size_part _ _ (by omega)]; omega), List.append_nil] at he
  refine ⟨he, ?_⟩
  have := p.count
  rw [rest_end s _ (Nat.le_refl _), hsL_nil, zeros, zeros, h0] at this
  simp at this
  omega
theorem primesP_no {s : ByteArray} (h : dyck s = false) : primesP s = [] := primesF_no _ _ (by simp [h])

end Go.Proofs.Ytbdnelijfbnfnaa
end

section
namespace Go.Proofs.Ytbdnelijfbnfnaa
open Go.ChangeShapes Go.WideShapes Go.ChangeAt Go.RowKit
set_option linter.unusedVariables false

theorem own_ne_iter {w : World} {base n e k i : Nat} {v : Value} {xs : List Value} {s : ByteArray} (h : w.ownsRow base e 1 v n xs) (hk : AtS w k s i) : v.ownBlock ≠ some k := by
  intro he
  rcases h.2 with ⟨rfl, -⟩ | ⟨g, cap, cur, rfl, hb, hh, -⟩
  · cases he
  · simp only [Value.ownBlock, Option.some.injEq] at he
    subst he
    unfold AtS at hk
    rw [hh] at hk
    simp at hk
theorem own_iterAt {w : World} {base n e k i j : Nat} {v : Value} {xs : List Value} {s : ByteArray} (h : w.ownsRow base e 1 v n xs) (hk : AtS w k s i) : (w.iterAt k s j).ownsRow base e 1 v n xs := by
  have hne := own_ne_iter h hk
  refine ⟨h.1, ?_⟩
  rcases h.2 with he | ⟨g, cap, cur, rfl, hb, hh, hr⟩
  · exact .inl he
  · refine .inr ⟨g, cap, cur, rfl, hb, ?_, hr⟩
    rw [Lib.iterAt_other _ _ _ _ _ (fun e1 => hne (by rw [← e1]; rfl))]
    exact hh
theorem AtS.lt {w : World} {k i : Nat} {s : ByteArray} (h : AtS w k s i) : k < w.heap.size := (Array.getElem?_eq_some_iff.1 h).1
theorem AtS.alloc {w : World} {k i : Nat} {s : ByteArray} (h : AtS w k s i) (o : Obj) : AtS (w.alloc o) k s i := by
  have := h.lt
  unfold AtS
  rw [show (w.alloc o).heap = w.heap.push o from rfl, Array.getElem?_push, if_neg (by omega)]
  exact h
theorem AtS.grown {w w' : World} {k i : Nat} {s : ByteArray} {row : Option Nat} (h : AtS w k s i) (hg : w.grownBy w' row) (hne : row ≠ some k) : AtS w' k s i :=
  (hg.block k h.lt (fun e => hne e.symm)).trans h
theorem AtS.pos {w : World} {k i : Nat} {s : ByteArray} (h : AtS w k s i) : w.iterPos k = i := by
  unfold AtS at h
  simp only [World.iterPos, h]
theorem AtS.move {w : World} {k i j : Nat} {s : ByteArray} (h : AtS w k s i) : AtS (w.iterAt k s j) k s j := Lib.iterAt_heap _ _ _ _ _ h

theorem PrAt.reach {s : ByteArray} (hd : dyck s = true) : ∀ i, i ≤ s.size → ∃ h b acc, PrAt s i h b acc := by
  intro i
  induction i with
  | zero => intro _; exact ⟨_, _, _, PrAt.start hd⟩
  | succ i ih =>
    intro hi
    obtain ⟨h, b, acc, p⟩ := ih (by omega)
    rcases dyck_letter hd i hi with e | e
    · exact ⟨_, _, _, p.up hi e⟩
    · have h1 := p.below hi e
      by_cases h11 : h = 1
      · subst h11
        exact ⟨_, _, _, p.hit (dyck_size hd) hi e⟩
      · obtain ⟨h, rfl⟩ : ∃ k, h = k + 2 := ⟨h - 2, by omega⟩
        exact ⟨_, _, _, p.down hi e⟩
theorem returnsP_yes {s : ByteArray} (hd : dyck s = true) : returnsP s = ((primesP s).length : Int) := by
  obtain ⟨h, b, acc, p⟩ := PrAt.reach hd s.size (Nat.le_refl _)
  obtain ⟨h1, h2⟩ := p.stop
  unfold returnsP
  rw [heightsP_yes hd, ← h2, h1]; omega

end Go.Proofs.Ytbdnelijfbnfnaa
end
