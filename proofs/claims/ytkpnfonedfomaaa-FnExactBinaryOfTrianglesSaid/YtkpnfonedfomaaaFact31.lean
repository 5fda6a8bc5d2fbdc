/- The stack as a machine, plain: what is put on it, what is taken off, and how often one must pass. -/
import Derived.Test.YtkpnfonedfomaaaFact10Q
namespace Go.Proofs.Ytkpnfonedfomaaa
open Go.ChangeShapes Go.WideShapes Go.ChangeAt Go.RowKit
set_option linter.unusedVariables false

theorem tw_at {α : Type} (p : α → Bool) : ∀ (l : List α) (j : Nat) (h : j < (l.takeWhile p).length), ∃ h2 : j < l.length, p l[j] = true := by
  intro l
  induction l with
  | nil => intro j h; simp at h
  | cons x l ih =>
    intro j h
    rw [List.takeWhile_cons] at h
    by_cases e : p x = true
    · rw [if_pos e] at h
      cases j with
      | zero => exact ⟨by simp, e⟩
      | succ j =>
        obtain ⟨h2, h3⟩ := ih j (by simpa using h)
        exact ⟨by simpa using h2, by simpa using h3⟩
    · rw [if_neg e] at h; simp at h
theorem tw_end {α : Type} (p : α → Bool) : ∀ (l : List α) (h : (l.takeWhile p).length < l.length), p l[(l.takeWhile p).length] = false := by
  intro l
  induction l with
  | nil => intro h; simp at h
  | cons x l ih =>
    intro h
    by_cases e : p x = true
    · have e1 : (x :: l).takeWhile p = x :: l.takeWhile p := by rw [List.takeWhile_cons, if_pos e]
      have h2 : (l.takeWhile p).length < l.length := by rw [e1] at h; simpa using h
      have := ih h2
      simp only [e1, List.length_cons, List.getElem_cons_succ]
      exact this
    · have e1 : (x :: l).takeWhile p = [] := by rw [List.takeWhile_cons, if_neg e]
      simp only [e1, List.length_nil, List.getElem_cons_zero]
      simpa using e
theorem tw_le {α : Type} (p : α → Bool) (l : List α) : (l.takeWhile p).length ≤ l.length := (List.takeWhile_sublist p).length_le

/-- How many numbers at the top are less. -/
def tkN (S : List Int) (x : Int) : Nat := (S.reverse.takeWhile fun y => decide (y < x)).length
theorem tk_le (S : List Int) (x : Int) : tkN S x ≤ S.length := by have := tw_le (fun y => decide (y < x)) S.reverse; rw [List.length_reverse] at this; exact this
theorem rev_at (S : List Int) (j : Nat) (h : j < S.length) : S.reverse[j]'(by rw [List.length_reverse]; exact h) = S.getD (S.length - 1 - j) 0 := by
  rw [List.getElem_reverse, List.getD_eq_getElem?_getD, List.getElem?_eq_getElem (by omega)]; rfl
theorem tk_lt {S : List Int} {x : Int} {j : Nat} (h : j < tkN S x) : j < S.length ∧ S.getD (S.length - 1 - j) 0 < x := by
  obtain ⟨h2, h3⟩ := tw_at _ _ _ h
  rw [List.length_reverse] at h2
  rw [rev_at S j h2] at h3
  exact ⟨h2, of_decide_eq_true h3⟩
theorem tk_end {S : List Int} {x : Int} (h : tkN S x < S.length) : x ≤ S.getD (S.length - 1 - tkN S x) 0 := by
  have h3 := tw_end (fun y => decide (y < x)) S.reverse (by rw [List.length_reverse]; exact h)
  have h4 := rev_at S (tkN S x) h
  have h5 := of_decide_eq_false h3
  unfold tkN at h4 ⊢
  rw [h4] at h5
  omega

/-- The stack and the output behind i numbers. -/
def srS (xs : List Int) : Nat → List Int
  | 0 => []
  | i + 1 => (srS xs i).take ((srS xs i).length - tkN (srS xs i) (xs.getD i 0)) ++ [xs.getD i 0]
def srO (xs : List Int) : Nat → List Int
  | 0 => []
  | i + 1 => srO xs i ++ (srS xs i).reverse.take (tkN (srS xs i) (xs.getD i 0))
/-- All numbers once more: the output and then the stack from its top. -/
def srA (xs : List Int) (i : Nat) : List Int := srO xs i ++ (srS xs i).reverse
def sortP (xs : List Int) : List Int := srA xs xs.length

theorem take_more {l : List Int} {i : Nat} (h : i < l.length) : l.take (i + 1) = l.take i ++ [l.getD i 0] := by
  rw [List.take_add_one, List.getD_eq_getElem?_getD, List.getElem?_eq_getElem h]; rfl
theorem sr_perm (xs : List Int) : ∀ i, i ≤ xs.length → (srO xs i ++ srS xs i).Perm (xs.take i) := by
  intro i
  induction i with
  | zero => intro _; simp [srO, srS]
  | succ i ih =>
    intro h
    have h1 := ih (by omega)
    rw [srO, srS, take_more (show i < xs.length by omega)]
    generalize hk : tkN (srS xs i) (xs.getD i 0) = k
    have hk2 : k ≤ (srS xs i).length := by rw [← hk]; exact tk_le _ _
    generalize srS xs i = S at h1 hk2
    generalize srO xs i = O at h1
    generalize xs.getD i 0 = x
    have e1 : S.reverse.take k = (S.drop (S.length - k)).reverse := by
      rw [List.take_reverse]
    rw [e1, ← List.append_assoc]
    refine List.Perm.append_right _ ?_
    refine List.Perm.trans ?_ h1
    rw [List.append_assoc]
    refine List.Perm.append_left _ ?_
    refine ((List.reverse_perm _).append_right _).trans ?_
    refine List.perm_append_comm.trans ?_
    rw [List.take_append_drop]
theorem srA_perm (xs : List Int) (i : Nat) (h : i ≤ xs.length) : (srA xs i).Perm (xs.take i) := by
  refine List.Perm.trans ?_ (sr_perm xs i h)
  exact List.Perm.append_left _ (List.reverse_perm _)
theorem srA_len (xs : List Int) (i : Nat) (h : i ≤ xs.length) : (srA xs i).length = i := by
  rw [(srA_perm xs i h).length_eq, List.length_take]; omega
theorem sr_len (xs : List Int) (i : Nat) (h : i ≤ xs.length) : (srO xs i).length + (srS xs i).length = i := by
  have := srA_len xs i h; unfold srA at this; rw [List.length_append, List.length_reverse] at this; exact this
theorem sort_perm (xs : List Int) : (sortP xs).Perm xs := by
  have := srA_perm xs xs.length (Nat.le_refl _); rw [List.take_length] at this; exact this
theorem sort_len (xs : List Int) : (sortP xs).length = xs.length := (sort_perm xs).length_eq

theorem perm_of {xs : List Int} (h1 : xs.Nodup) (h2 : xs.length ≤ 8) (h3 : ∀ x ∈ xs, 0 ≤ x ∧ x ≤ (xs.length : Int) - 1) : permB xs = true := by
  refine decide_eq_true ⟨h2, fun j hj => ?_⟩
  have hm : xs.getD j 0 ∈ xs := by rw [getD_el hj]; exact List.getElem_mem _
  refine ⟨(h3 _ hm).1, (h3 _ hm).2, fun k hk e => ?_⟩
  rw [getD_el hj, getD_el (show k < xs.length by omega)] at e
  have := (List.nodup_iff_pairwise_ne.1 h1 |> List.pairwise_iff_getElem.1) k j (by omega) hj hk
  exact this e
theorem perm_mem {xs : List Int} (h : permB xs = true) : ∀ x ∈ xs, 0 ≤ x ∧ x ≤ (xs.length : Int) - 1 := by
  intro x hx
  obtain ⟨i, hi, rfl⟩ := List.mem_iff_getElem.1 hx
  have := (perm_yes h).2 i hi
  rw [← getD_el hi]
  exact ⟨this.1, this.2.1⟩
theorem perm_same {xs ys : List Int} (h : permB xs = true) (hp : ys.Perm xs) : permB ys = true := by
  refine perm_of (hp.nodup_iff.2 (perm_nodup h)) (by rw [hp.length_eq]; exact (perm_yes h).1) fun x hx => ?_
  rw [hp.length_eq]
  exact perm_mem h x (hp.mem_iff.1 hx)
theorem sort_ok {xs : List Int} (h : permB xs = true) : permB (sortP xs) = true := perm_same h (sort_perm xs)

/-- Each number at its place. -/
def idP (xs : List Int) : Bool := decide (∀ i, i < xs.length → xs.getD i 0 = (i : Int))
theorem idP_no {xs : List Int} {i : Nat} (hi : i < xs.length) (h : xs.getD i 0 ≠ (i : Int)) : idP xs = false := decide_eq_false fun hh => h (hh i hi)
/-- No number is followed by a lesser one. -/
def sdB (xs : List Int) : Bool := decide (∀ i, i < xs.length - 1 → ¬ xs.getD (i + 1) 0 < xs.getD i 0)
theorem sdB_no {xs : List Int} {i : Nat} (hi : i + 1 < xs.length) (h : xs.getD (i + 1) 0 < xs.getD i 0) : sdB xs = false := decide_eq_false fun hh => hh i (by omega) h
theorem sd_id {xs : List Int} (h : permB xs = true) : sdB xs = idP xs := by
  by_cases hd : ∀ i, i < xs.length - 1 → ¬ xs.getD (i + 1) 0 < xs.getD i 0
  · rw [show sdB xs = true from decide_eq_true hd]
    symm
    refine decide_eq_true ?_
    have hs : ∀ i, i + 1 < xs.length → xs.getD i 0 + 1 ≤ xs.getD (i + 1) 0 := by
      intro i hi
      have h1 := hd i (by omega)
      have h2 := ((perm_yes h).2 (i + 1) hi).2.2 i (by omega)
      omega
    have hlow : ∀ i, i < xs.length → (i : Int) ≤ xs.getD i 0 := by
      intro i
      induction i with
      | zero => intro hi; have := ((perm_yes h).2 0 hi).1; simpa using this
      | succ i ih => intro hi; have := ih (by omega); have := hs i hi; push_cast; omega
    have hup : ∀ k i, i + k + 1 = xs.length → xs.getD i 0 ≤ (i : Int) := by
      intro k
      induction k with
      | zero => intro i hi; have := ((perm_yes h).2 i (by omega)).2.1; omega
      | succ k ih => intro i hi; have h1 := ih (i + 1) (by omega); have := hs i (by omega); push_cast at h1; omega
    intro i hi
    have h1 := hlow i hi
    have h2 := hup (xs.length - 1 - i) i (by omega)
    omega
  · rw [show sdB xs = false from decide_eq_false hd]
    symm
    refine decide_eq_false fun hi => hd fun i h1 => ?_
    rw [hi i (by omega), hi (i + 1) (by omega)]
    push_cast; omega

/-- Behind a number that is greater than all before it the stack has only this number. -/
theorem sr_top {xs : List Int} {i : Nat} (hi : i < xs.length) (h : ∀ j, j < i → xs.getD j 0 < xs.getD i 0) : srO xs (i + 1) = srA xs i ∧ srS xs (i + 1) = [xs.getD i 0] := by
  have hm : ∀ x ∈ srS xs i, x < xs.getD i 0 := by
    intro x hx
    have h1 : x ∈ xs.take i := (sr_perm xs i (by omega)).mem_iff.1 (List.mem_append_right _ hx)
    obtain ⟨j, hj, rfl⟩ := List.mem_iff_getElem.1 h1
    rw [List.length_take] at hj
    have h2 := h j (by omega)
    rw [getD_el (show j < xs.length by omega)] at h2
    rw [List.getElem_take]
    exact h2
  have hk : tkN (srS xs i) (xs.getD i 0) = (srS xs i).length := by
    have h1 := tk_le (srS xs i) (xs.getD i 0)
    by_cases e : tkN (srS xs i) (xs.getD i 0) < (srS xs i).length
    · have h2 := tk_end e
      have h3 : (srS xs i).getD ((srS xs i).length - 1 - tkN (srS xs i) (xs.getD i 0)) 0 ∈ srS xs i := by
        rw [getD_el (by omega)]; exact List.getElem_mem _
      have := hm _ h3
      omega
    · omega
  constructor
  · rw [srO, hk, List.take_of_length_le (by rw [List.length_reverse]; omega)]; rfl
  · rw [srS, hk, Nat.sub_self, List.take_zero, List.nil_append]
theorem srA_top {xs : List Int} {q : Nat} (h : ∀ i, q ≤ i → i < xs.length → ∀ j, j < i → xs.getD j 0 < xs.getD i 0) : ∀ k, q + k ≤ xs.length → srA xs (q + k) = srA xs q ++ (xs.drop q).take k := by
  intro k
  induction k with
  | zero => intro _; simp
  | succ k ih =>
    intro hk
    have h1 := ih (by omega)
    obtain ⟨h2, h3⟩ := sr_top (xs := xs) (i := q + k) (by omega) (h (q + k) (by omega) (by omega))
    have h4 : srA xs (q + (k + 1)) = srA xs (q + k) ++ [xs.getD (q + k) 0] := by
      unfold srA at h2 ⊢
      rw [show q + (k + 1) = q + k + 1 by omega, h2, h3]; rfl
    rw [h4, h1, List.append_assoc]
    congr 1
    rw [List.take_add_one, List.getElem?_drop, getD_el (by omega), List.getElem?_eq_getElem (by omega)]; rfl
/-- The lowest number of the stack is the greatest so far. -/
theorem sr_low (xs : List Int) : ∀ i, 0 < i → i ≤ xs.length → 0 < (srS xs i).length ∧ ∀ j, j < i → xs.getD j 0 ≤ (srS xs i).getD 0 0 := by
  intro i
  induction i with
  | zero => intro h; omega
  | succ i ih =>
    intro _ hi
    have hk := tk_le (srS xs i) (xs.getD i 0)
    have hend := @tk_end (srS xs i) (xs.getD i 0)
    have hlt := @tk_lt (srS xs i) (xs.getD i 0)
    have hp := sr_perm xs i (by omega)
    rw [srS]
    refine ⟨by simp, fun j hj => ?_⟩
    by_cases e0 : i = 0
    · subst e0
      obtain rfl : j = 0 := by omega
      simp [srS]
    · obtain ⟨h1, h2⟩ := ih (by omega) (by omega)
      generalize tkN (srS xs i) (xs.getD i 0) = k at *
      generalize hS : srS xs i = S at *
      by_cases e : k < S.length
      · have h5 : (S.take (S.length - k) ++ [xs.getD i 0]).getD 0 0 = S.getD 0 0 := by
          rw [List.getD_eq_getElem?_getD, List.getD_eq_getElem?_getD, List.getElem?_append_left (by rw [List.length_take]; omega), List.getElem?_take_of_lt (by omega), ← List.getD_eq_getElem?_getD]
        rw [h5]
        by_cases ej : j < i
        · exact h2 j ej
        · obtain rfl : j = i := by omega
          have h6 := hend e
          have h7 : S.getD (S.length - 1 - k) 0 ∈ xs.take j := hp.mem_iff.1 (List.mem_append_right _ (by rw [getD_el (by omega)]; exact List.getElem_mem _))
          obtain ⟨q, hq, e7⟩ := List.mem_iff_getElem.1 h7
          rw [List.length_take] at hq
          rw [List.getElem_take] at e7
          have h8 := h2 q (by omega)
          rw [getD_el (show q < xs.length by omega), e7] at h8
          omega
      · obtain rfl : k = S.length := by omega
        rw [Nat.sub_self, List.take_zero, List.nil_append]
        have h5 : ([xs.getD i 0] : List Int).getD 0 0 = xs.getD i 0 := rfl
        rw [h5]
        by_cases ej : j < i
        · have h6 := h2 j ej
          have h7 := (hlt (show S.length - 1 < S.length by omega)).2
          rw [show S.length - 1 - (S.length - 1) = 0 by omega] at h7
          omega
        · obtain rfl : j = i := by omega
          omega

/-- The last k numbers stand at their places. -/
def Fx (k : Nat) (xs : List Int) : Prop := permB xs = true ∧ ∀ i, xs.length ≤ i + k → i < xs.length → xs.getD i 0 = (i : Int)
theorem Fx.top {k : Nat} {xs : List Int} (h : Fx k xs) {i : Nat} (h1 : xs.length ≤ i + k) (h2 : i < xs.length) : ∀ j, j < i → xs.getD j 0 < xs.getD i 0 := by
  intro j hj
  obtain ⟨hp, hf⟩ := h
  rw [hf i h1 h2]
  have h3 := (perm_yes hp).2 j (by omega)
  by_cases e : xs.getD j 0 < (i : Int)
  · exact e
  · have h4 := hf (xs.getD j 0).toNat (by have := h3.1; omega) (by have := h3.1; have := h3.2.1; omega)
    have h5 := perm_inj hp (i := (xs.getD j 0).toNat) (j := j) (by have := h3.1; have := h3.2.1; omega) (by omega) (by rw [h4]; have := h3.1; omega)
    omega
theorem Fx.step {k : Nat} {xs : List Int} (h : Fx k xs) : Fx (k + 1) (sortP xs) := by
  have hp := h.1
  refine ⟨sort_ok hp, fun i h1 h2 => ?_⟩
  rw [sort_len] at h1 h2
  by_cases hk : xs.length ≤ k
  · have e := srA_top (xs := xs) (q := 0) (fun i hi h2 => h.top (by omega) h2) xs.length (by omega)
    rw [Nat.zero_add] at e
    unfold sortP
    rw [e, List.drop_zero, List.take_length]
    rw [show srA xs 0 ++ xs = xs from rfl]
    exact h.2 i (by omega) h2
  · have hq : xs.length - k + k = xs.length := by omega
    generalize hqq : xs.length - k = q at hq
    have e := srA_top (xs := xs) (q := q) (fun i hi h2 => h.top (by omega) h2) k (by omega)
    rw [hq] at e
    have hal := srA_len xs q (by omega)
    unfold sortP
    rw [e]
    by_cases ei : q ≤ i
    · rw [List.getD_eq_getElem?_getD, List.getElem?_append_right (by omega), hal, List.take_of_length_le (by rw [List.length_drop]; omega), List.getElem?_drop, show q + (i - q) = i by omega, ← List.getD_eq_getElem?_getD]
      exact h.2 i (by omega) h2
    · have hi1 : i + 1 = q := by omega
      obtain ⟨hl1, hl2⟩ := sr_low xs q (by omega) (by omega)
      have h5 : (srA xs q ++ (xs.drop q).take k).getD i 0 = (srS xs q).getD 0 0 := by
        rw [List.getD_eq_getElem?_getD, List.getElem?_append_left (by omega)]
        unfold srA
        have hsl := sr_len xs q (by omega)
        rw [List.getElem?_append_right (by omega), List.getElem?_reverse (by omega), show (srS xs q).length - 1 - (i - (srO xs q).length) = 0 by omega, ← List.getD_eq_getElem?_getD]
      rw [h5]
      have h6 : (srS xs q).getD 0 0 ∈ xs.take q := (sr_perm xs q (by omega)).mem_iff.1 (List.mem_append_right _ (by rw [getD_el hl1]; exact List.getElem_mem _))
      obtain ⟨p, hpq, e7⟩ := List.mem_iff_getElem.1 h6
      rw [List.length_take] at hpq
      rw [List.getElem_take] at e7
      obtain ⟨c, hc1, hc2⟩ := perm_all hp (c := i) (by omega)
      have hcq : c < q := by
        by_cases hh : c < q
        · exact hh
        · have := h.2 c (by omega) hc1; omega
      have h8 := hl2 c hcq
      have hpp : xs.getD p 0 < (q : Int) := by
        by_cases hqn : q < xs.length
        · have := h.top (i := q) (by omega) hqn p (by omega)
          rw [h.2 q (by omega) hqn] at this
          exact this
        · have := ((perm_yes hp).2 p (by omega)).2.1; omega
      rw [getD_el (show p < xs.length by omega), e7] at hpp
      omega

/-- So many passes. -/
def sortI (xs : List Int) : Nat → List Int
  | 0 => xs
  | k + 1 => sortP (sortI xs k)
theorem sortI_ok {xs : List Int} (h : permB xs = true) (k : Nat) : permB (sortI xs k) = true := by
  induction k with
  | zero => exact h
  | succ k ih => exact sort_ok ih
theorem sortI_len (xs : List Int) (k : Nat) : (sortI xs k).length = xs.length := by
  induction k with
  | zero => rfl
  | succ k ih => rw [sortI, sort_len, ih]
theorem sortI_fx {xs : List Int} (h : permB xs = true) (k : Nat) : Fx k (sortI xs k) := by
  induction k with
  | zero => exact ⟨h, fun i h1 h2 => by omega⟩
  | succ k ih => exact ih.step
theorem sortI_end {xs : List Int} (h : permB xs = true) {k : Nat} (hk : xs.length ≤ k) : idP (sortI xs k) = true := by
  refine decide_eq_true fun i hi => (sortI_fx h k).2 i (by rw [sortI_len]; omega) hi
/-- The first pass behind which all is sorted. -/
def psK (xs : List Int) : Nat := (List.range (xs.length + 1)).findIdx fun k => idP (sortI xs k)
theorem psK_eq {xs : List Int} (h : permB xs = true) {k : Nat} (h1 : idP (sortI xs k) = true) (h2 : ∀ j, j < k → idP (sortI xs j) = false) : psK xs = k := by
  have hk : k < xs.length + 1 := by
    by_cases e : k ≤ xs.length
    · omega
    · have := h2 xs.length (by omega)
      rw [sortI_end h (Nat.le_refl _)] at this; cases this
  unfold psK
  rw [List.findIdx_eq (by rw [List.length_range]; exact hk)]
  refine ⟨by simpa using h1, fun j hj => by simpa using h2 j hj⟩
theorem psK_lt {xs : List Int} (h : permB xs = true) {k : Nat} (h2 : ∀ j, j < k + 1 → idP (sortI xs j) = false) : k < xs.length := by
  by_cases e : k < xs.length
  · exact e
  · have := h2 xs.length (by omega)
    rw [sortI_end h (Nat.le_refl _)] at this; cases this
def passP (xs : List Int) : Int := if permB xs = true then (psK xs : Int) else -1
def sortOP (xs : List Int) : List Int := if permB xs = true then sortP xs else []
def sortB (xs : List Int) : Bool := permB xs && idP (sortP xs)

end Go.Proofs.Ytkpnfonedfomaaa
