/- Plain facts: the path of a permutation without 231, by the places of its numbers and by a stack. -/
import Derived.Test.YtkpnfonedfomaaaFact10P
namespace Go.Proofs.Ytkpnfonedfomaaa
open Go.ChangeShapes Go.WideShapes Go.ChangeAt Go.RowKit
set_option linter.unusedVariables false

theorem sub_len : ∀ (l m : List Int), l.Nodup → (∀ x ∈ l, x ∈ m) → l.length ≤ m.length := by
  intro l
  induction l with
  | nil => intro m _ _; exact Nat.zero_le _
  | cons a t ih =>
    intro m hn hs
    obtain ⟨ha, ht⟩ := List.nodup_cons.1 hn
    have hm := hs a (List.mem_cons_self ..)
    have h1 := ih (m.erase a) ht fun x hx => (List.mem_erase_of_ne (fun e => ha (by rw [← e]; exact hx))).2 (hs x (List.mem_cons_of_mem _ hx))
    have h2 := List.length_erase_of_mem hm
    have h3 := List.length_pos_of_mem hm
    rw [List.length_cons]; omega
theorem perm_nodup {xs : List Int} (h : permB xs = true) : xs.Nodup := by
  rw [List.Nodup, List.pairwise_iff_getElem]
  intro i j hi hj hij e
  have := ((perm_yes h).2 j hj).2.2 i hij
  apply this
  rw [List.getD_eq_getElem?_getD, List.getD_eq_getElem?_getD, List.getElem?_eq_getElem hi, List.getElem?_eq_getElem hj]
  simpa using e
theorem getD_el {xs : List Int} {i : Nat} (h : i < xs.length) : xs.getD i 0 = xs[i] := by
  rw [List.getD_eq_getElem?_getD, List.getElem?_eq_getElem h]; rfl
theorem perm_inj {xs : List Int} (h : permB xs = true) {i j : Nat} (hi : i < xs.length) (hj : j < xs.length) (e : xs.getD i 0 = xs.getD j 0) : i = j := by
  rcases Nat.lt_trichotomy i j with h1 | h1 | h1
  · exact absurd e (((perm_yes h).2 j hj).2.2 i h1)
  · exact h1
  · exact absurd e.symm (((perm_yes h).2 i hi).2.2 j h1)
/-- Each number has a place. -/
theorem perm_all {xs : List Int} (h : permB xs = true) {c : Nat} (hc : c < xs.length) : ∃ i, i < xs.length ∧ xs.getD i 0 = (c : Int) := by
  by_cases hm : (c : Int) ∈ xs
  · obtain ⟨i, hi, e⟩ := List.mem_iff_getElem.1 hm
    exact ⟨i, hi, by rw [getD_el hi, e]⟩
  · exfalso
    have h1 := sub_len xs (((List.range xs.length).map fun (k : Nat) => (k : Int)).erase (c : Int)) (perm_nodup h) fun x hx => by
      obtain ⟨i, hi, e⟩ := List.mem_iff_getElem.1 hx
      have h2 := (perm_yes h).2 i hi
      unfold pmOk at h2
      rw [getD_el hi, e] at h2
      refine (List.mem_erase_of_ne (fun e2 => hm (by rw [← e2]; exact hx))).2 (List.mem_map.2 ⟨x.toNat, List.mem_range.2 (by omega), by omega⟩)
    rw [List.length_erase_of_mem (List.mem_map.2 ⟨c, List.mem_range.2 hc, rfl⟩)] at h1
    simp at h1
    omega
/-- The place of the number of place j. -/
theorem ivL_at {xs : List Int} (h : permB xs = true) : ∀ i, i ≤ xs.length → ∀ j, j < i → (ivL xs i).getD (xs.getD j 0).toNat 0 = (j : Int) := by
  intro i
  induction i with
  | zero => intro _ j hj; omega
  | succ i ih =>
    intro hi j hj
    have hl := ivL_len xs i
    obtain ⟨h1, h2, -⟩ := (perm_yes h).2 j (by omega)
    obtain ⟨h3, h4, -⟩ := (perm_yes h).2 i (by omega)
    rw [ivL, List.getD_eq_getElem?_getD, List.getElem?_set]
    by_cases e : j = i
    · subst e
      rw [if_pos rfl, if_pos (by omega)]; rfl
    · rw [if_neg (fun e2 => e (perm_inj h (by omega) (by omega) (by omega))), ← List.getD_eq_getElem?_getD]
      exact ih (by omega) j (by omega)

/-- How many numbers are on the stack or beyond when the first k have come out, and the letters till then. -/
def ppM (iv : List Int) : Nat → Nat
  | 0 => 0
  | k + 1 => max (ppM iv k) ((iv.getD k 0).toNat + 1)
def ppW (iv : List Int) : Nat → List UInt8
  | 0 => []
  | k + 1 => ppW iv k ++ List.replicate (ppM iv (k + 1) - ppM iv k) 117 ++ [100]
theorem ppM_le {iv : List Int} {n : Nat} (h : ∀ k, k < n → iv.getD k 0 < (n : Int)) : ∀ k, k ≤ n → ppM iv k ≤ n := by
  intro k
  induction k with
  | zero => intro _; exact Nat.zero_le _
  | succ k ih => intro hk; have := ih (by omega); have := h k (by omega); rw [ppM]; omega
theorem ppM_mono (iv : List Int) (k : Nat) : ppM iv k ≤ ppM iv (k + 1) := by rw [ppM]; omega
theorem ppW_len (iv : List Int) (k : Nat) : (ppW iv k).length = ppM iv k + k := by
  induction k with
  | zero => rfl
  | succ k ih => have := ppM_mono iv k; rw [ppW, List.length_append, List.length_append, ih, List.length_replicate]; simp; omega
def popOk (xs : List Int) : Bool := permB xs && !conB r231 xs
def popP (xs : List Int) : ByteArray := if popOk xs = true then ⟨(ppW (ivL xs xs.length) xs.length).toArray⟩ else ⟨#[]⟩

theorem no_231 {xs : List Int} (h : hasT r231 xs = false) {a b c : Int} (hs : [a, b, c].Sublist xs) : ¬ (c < a ∧ a < b) := by
  intro hr
  obtain ⟨r1, r2, rfl, ha, h2⟩ := List.cons_sublist_iff.1 hs
  obtain ⟨r3, r4, rfl, hb, h4⟩ := List.cons_sublist_iff.1 h2
  have hc : c ∈ r4 := h4.subset (by simp)
  obtain ⟨i, hi, rfl⟩ := List.mem_iff_getElem.1 ha
  obtain ⟨j, hj, rfl⟩ := List.mem_iff_getElem.1 hb
  obtain ⟨k, hk, rfl⟩ := List.mem_iff_getElem.1 hc
  have hy := hasT_yes (R := r231) (xs := r1 ++ (r3 ++ r4)) (a := i) (b := r1.length + j) (c := r1.length + (r3.length + k)) (by omega) (by omega) (by simp; omega) (by
    rw [getD_el (by simp; omega), getD_el (by simp; omega), getD_el (by simp; omega)]
    have e1 : ∀ h, (r1 ++ (r3 ++ r4))[i]'h = r1[i] := fun h => List.getElem_append_left hi
    have e2 : ∀ h, (r1 ++ (r3 ++ r4))[r1.length + j]'h = r3[j] := fun h => by simp [hj]
    have e3 : ∀ h, (r1 ++ (r3 ++ r4))[r1.length + (r3.length + k)]'h = r4[k] := fun h => by simp
    rw [e1, e2, e3]
    unfold r231
    exact decide_eq_true hr)
  rw [h] at hy; cases hy

/-- The stack when i numbers have been put on and those below c have come out. -/
def skL (xs : List Int) (i : Nat) (c : Nat) : List Int := (xs.take i).filter fun x => decide ((c : Int) ≤ x)
theorem skL_sub (xs : List Int) (i c : Nat) : (skL xs i c).Sublist xs := (List.filter_sublist ..).trans (List.take_sublist ..)
theorem skL_len (xs : List Int) (i c : Nat) : (skL xs i c).length ≤ xs.length := (skL_sub xs i c).length_le
theorem skL_mem {xs : List Int} {i c : Nat} {x : Int} (h : x ∈ skL xs i c) : (c : Int) ≤ x ∧ ∃ j, j < i ∧ j < xs.length ∧ xs.getD j 0 = x := by
  obtain ⟨h1, h2⟩ := List.mem_filter.1 h
  obtain ⟨j, hj, e⟩ := List.mem_iff_getElem.1 h1
  rw [List.length_take] at hj
  refine ⟨of_decide_eq_true h2, j, by omega, by omega, ?_⟩
  rw [getD_el (by omega), ← e, List.getElem_take]
theorem skL_has {xs : List Int} {i c j : Nat} (hj : j < i) (hj2 : j < xs.length) (h : (c : Int) ≤ xs.getD j 0) : xs.getD j 0 ∈ skL xs i c := by
  refine List.mem_filter.2 ⟨?_, decide_eq_true h⟩
  rw [getD_el hj2]
  exact List.mem_iff_getElem.2 ⟨j, by rw [List.length_take]; omega, List.getElem_take⟩
theorem skL_push {xs : List Int} {i c : Nat} (hi : i < xs.length) (h : (c : Int) ≤ xs.getD i 0) : skL xs (i + 1) c = skL xs i c ++ [xs.getD i 0] := by
  unfold skL
  rw [List.take_succ_eq_append_getElem hi, List.filter_append, ← getD_el hi]
  congr 1
  exact List.filter_cons_of_pos (p := fun x => decide ((c : Int) ≤ x)) (l := []) (decide_eq_true h)
theorem skL_pop {xs : List Int} (hp : permB xs = true) {i c : Nat} {T : List Int} (h : skL xs i c = T ++ [(c : Int)]) : skL xs i (c + 1) = T := by
  have hn : (T ++ [(c : Int)]).Nodup := by rw [← h]; exact (perm_nodup hp).sublist (skL_sub xs i c)
  have hnc : ∀ x ∈ T, x ≠ (c : Int) := fun x hx e => by
    rw [List.nodup_append] at hn
    exact hn.2.2 x hx (c : Int) (by simp) e
  have hge : ∀ x ∈ T, (c : Int) ≤ x := fun x hx => (skL_mem (xs := xs) (i := i) (c := c) (by rw [h]; exact List.mem_append_left _ hx)).1
  have e : skL xs i (c + 1) = (skL xs i c).filter fun x => decide (((c + 1 : Nat) : Int) ≤ x) := by
    unfold skL
    rw [List.filter_filter]
    congr 1
    funext x
    by_cases hx : ((c + 1 : Nat) : Int) ≤ x
    · have : (c : Int) ≤ x := by omega
      simp only [decide_eq_true hx, decide_eq_true this, Bool.and_self]
    · simp only [decide_eq_false hx, Bool.false_and]
  rw [e, h, List.filter_append]
  have h1 : T.filter (fun x => decide (((c + 1 : Nat) : Int) ≤ x)) = T := List.filter_eq_self.2 fun x hx => decide_eq_true (by have := hnc x hx; have := hge x hx; omega)
  have h2 : [(c : Int)].filter (fun x => decide (((c + 1 : Nat) : Int) ≤ x)) = [] := by rw [List.filter_cons_of_neg (by rw [decide_eq_true_eq]; omega)]; rfl
  rw [h1, h2, List.append_nil]

/-- In front of a push: what has come out, what has not. -/
structure PkS (xs : List Int) (i c : Nat) (W : List UInt8) : Prop where
  le : c ≤ xs.length
  low : ∀ j, j < xs.length → xs.getD j 0 < (c : Int) → j < i
  fresh : ∀ j, j < i → j < xs.length → xs.getD j 0 ≠ (c : Int)
  top : ppM (ivL xs xs.length) c ≤ i
  word : W = ppW (ivL xs xs.length) c ++ List.replicate (i - ppM (ivL xs xs.length) c) 117
/-- Behind a push. -/
structure PkR (xs : List Int) (i c : Nat) (W : List UInt8) : Prop where
  le : c ≤ xs.length
  low : ∀ j, j < xs.length → xs.getD j 0 < (c : Int) → j ≤ i
  new : ppM (ivL xs xs.length) c = i + 1 ∨ ∀ j, j < i → j < xs.length → xs.getD j 0 ≠ (c : Int)
  top : ppM (ivL xs xs.length) c ≤ i + 1
  word : W = ppW (ivL xs xs.length) c ++ List.replicate (i + 1 - ppM (ivL xs xs.length) c) 117
  last : (c : Int) ∈ skL xs (i + 1) c → ∃ T, skL xs (i + 1) c = T ++ [(c : Int)]
theorem PkS.start (xs : List Int) (h : permB xs = true) : PkS xs 0 0 [] := ⟨Nat.zero_le _, fun j hj h1 => by have := ((perm_yes h).2 j hj).1; omega, fun j h => absurd h (Nat.not_lt_zero _), Nat.le_refl _, rfl⟩
theorem PkS.push {xs : List Int} {i c : Nat} {W : List UInt8} (h : PkS xs i c W) (hi : i < xs.length) : PkR xs i c (W ++ [117]) ∧ skL xs (i + 1) c = skL xs i c ++ [xs.getD i 0] := by
  have hge : (c : Int) ≤ xs.getD i 0 := by
    rcases Int.lt_or_le (xs.getD i 0) (c : Int) with h1 | h1
    · have := h.low i hi h1; omega
    · exact h1
  have hs := skL_push hi hge
  refine ⟨⟨h.le, fun j hj h1 => Nat.le_of_lt (h.low j hj h1), .inr h.fresh, Nat.le_succ_of_le h.top, ?_, fun hm => ?_⟩, hs⟩
  · have := h.top
    rw [h.word, show i + 1 - ppM (ivL xs xs.length) c = (i - ppM (ivL xs xs.length) c) + 1 by omega, List.replicate_succ', List.append_assoc]
  · rw [hs] at hm ⊢
    rcases List.mem_append.1 hm with h1 | h1
    · obtain ⟨-, j, h2, h3, h4⟩ := skL_mem h1
      exact absurd h4 (h.fresh j h2 h3)
    · rw [List.mem_singleton] at h1
      rw [← h1]; exact ⟨_, rfl⟩
theorem PkR.pop {xs : List Int} {i c : Nat} {W T : List Int} {V : List UInt8} (hp : permB xs = true) (h2 : hasT r231 xs = false) (hi : i < xs.length) (h : PkR xs i c V) (hT : skL xs (i + 1) c = T ++ [(c : Int)]) :
    PkR xs i (c + 1) (V ++ [100]) ∧ skL xs (i + 1) (c + 1) = T ∧ c < xs.length := by
  have hpop := skL_pop hp hT
  obtain ⟨-, j, hj1, hj2, hj3⟩ := skL_mem (xs := xs) (i := i + 1) (c := c) (x := (c : Int)) (by rw [hT]; simp)
  have hcl : c < xs.length := by have := ((perm_yes hp).2 j hj2).2.1; rw [hj3] at this; omega
  have hiv : (ivL xs xs.length).getD c 0 = (j : Int) := by
    have := ivL_at hp xs.length (Nat.le_refl _) j hj2
    rw [hj3] at this; simpa using this
  have hM : ppM (ivL xs xs.length) (c + 1) = i + 1 := by
    rw [ppM, hiv]
    have := h.top
    rcases h.new with e | e
    · omega
    · have : ¬ j < i := fun hh => e j hh hj2 hj3
      omega
  have htop := h.top
  refine ⟨⟨by omega, fun k hk h1 => ?_, .inl hM, by omega, ?_, fun hm => ?_⟩, hpop, hcl⟩
  · by_cases e : xs.getD k 0 = (c : Int)
    · have := perm_inj hp hk hj2 (e.trans hj3.symm); omega
    · exact h.low k hk (by omega)
  · rw [hM, Nat.sub_self, List.replicate_zero, List.append_nil, h.word, ppW, hM]
  · rw [hpop] at hm ⊢
    -- the last of T
    rcases List.eq_nil_or_concat T with rfl | ⟨T', y, rfl⟩
    · simp at hm
    · rw [List.concat_eq_append] at hm hT ⊢
      by_cases e : y = ((c + 1 : Nat) : Int)
      · subst e; exact ⟨T', rfl⟩
      · exfalso
        rw [List.mem_append, List.mem_singleton] at hm
        have hm' : ((c + 1 : Nat) : Int) ∈ T' := hm.resolve_right (fun e2 => e e2.symm)
        have hyge : (c : Int) ≤ y := (skL_mem (xs := xs) (i := i + 1) (c := c) (by rw [hT]; simp)).1
        have hn : (T' ++ [y] ++ [(c : Int)]).Nodup := by rw [← hT]; exact (perm_nodup hp).sublist (skL_sub xs (i + 1) c)
        have hyc : y ≠ (c : Int) := fun e2 => by
          rw [List.nodup_append] at hn
          exact hn.2.2 y (by simp) (c : Int) (by simp) e2
        have hsub : [((c + 1 : Nat) : Int), y, (c : Int)].Sublist xs := by
          refine List.Sublist.trans ?_ (skL_sub xs (i + 1) c)
          rw [hT, List.append_assoc]
          exact List.Sublist.append (List.singleton_sublist.2 hm') (List.Sublist.refl [y, (c : Int)])
        exact no_231 h2 hsub ⟨by omega, by omega⟩
theorem PkR.stop {xs : List Int} {i c : Nat} {V : List UInt8} (h : PkR xs i c V) (hc : (c : Int) ∉ skL xs (i + 1) c) : PkS xs (i + 1) c V := by
  refine ⟨h.le, fun j hj h1 => by have := h.low j hj h1; omega, fun j h1 h2 h3 => hc ?_, h.top, h.word⟩
  have := skL_has (xs := xs) (i := i + 1) (c := c) h1 h2 (by omega)
  rwa [h3] at this
theorem PkS.done {xs : List Int} {c : Nat} {W : List UInt8} (hp : permB xs = true) (h : PkS xs xs.length c W) : W = ppW (ivL xs xs.length) xs.length := by
  have hc : c = xs.length := by
    rcases Nat.lt_or_ge c xs.length with h1 | h1
    · obtain ⟨i, hi, e⟩ := perm_all hp h1
      exact absurd e (h.fresh i hi hi)
    · have := h.le; omega
  subst hc
  have hM : ppM (ivL xs xs.length) xs.length = xs.length := by
    have hle := h.top
    rcases Nat.eq_zero_or_pos xs.length with h0 | h0
    · omega
    · obtain ⟨h1, h2, -⟩ := (perm_yes hp).2 (xs.length - 1) (by omega)
      have hiv := ivL_at hp xs.length (Nat.le_refl _) (xs.length - 1) (by omega)
      have hmono : ∀ k m, ppM (ivL xs xs.length) k ≤ ppM (ivL xs xs.length) (k + m) := by
        intro k m
        induction m with
        | zero => exact Nat.le_refl _
        | succ m ih => exact Nat.le_trans ih (ppM_mono _ (k + m))
      obtain ⟨q, hq⟩ : ∃ q : Nat, q = (xs.getD (xs.length - 1) 0).toNat := ⟨_, rfl⟩
      rw [← hq] at hiv
      have h3 : ppM (ivL xs xs.length) (q + 1) = max (ppM (ivL xs xs.length) q) (((ivL xs xs.length).getD q 0).toNat + 1) := rfl
      rw [hiv] at h3
      have h4 := hmono (q + 1) (xs.length - (q + 1))
      rw [show q + 1 + (xs.length - (q + 1)) = xs.length by omega] at h4
      omega
  rw [h.word, hM, Nat.sub_self, List.replicate_zero, List.append_nil]

end Go.Proofs.Ytkpnfonedfomaaa
