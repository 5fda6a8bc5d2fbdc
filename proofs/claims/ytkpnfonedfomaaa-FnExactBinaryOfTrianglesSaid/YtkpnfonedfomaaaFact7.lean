/- Polygons, plain: diagonals as pairs of corners, sorted, put in order. -/
import Derived.Test.YtkpnfonedfomaaaProg
namespace Go.Proofs.Ytkpnfonedfomaaa
set_option linter.unusedVariables false

abbrev Ch := Int × Int
def bef (x y : Ch) : Bool := decide (x.1 < y.1 ∨ (x.1 = y.1 ∧ x.2 < y.2))
def leC (x y : Ch) : Bool := !bef y x
def crs (x y : Ch) : Bool := decide ((x.1 < y.1 ∧ y.1 < x.2 ∧ x.2 < y.2) ∨ (y.1 < x.1 ∧ x.1 < y.2 ∧ y.2 < x.2))
def sideB (n : Int) (x : Ch) : Bool := decide (x.2 - x.1 = 1 ∨ (x.1 = 0 ∧ x.2 = n - 1))
def rwC (l : List Int) : Ch := (l.getD 0 0, l.getD 1 0)
def csT (ls : List (List Int)) : List Ch := ls.map rwC
def srt (cs : List Ch) : List Ch := cs.mergeSort leC

theorem bef_iff (x y : Ch) : bef x y = true ↔ (x.1 < y.1 ∨ (x.1 = y.1 ∧ x.2 < y.2)) := by simp [bef]
theorem leC_iff (x y : Ch) : leC x y = true ↔ (x.1 < y.1 ∨ (x.1 = y.1 ∧ x.2 ≤ y.2)) := by
  unfold leC
  rw [Bool.not_eq_true', ← Bool.not_eq_true, bef_iff]; omega
theorem leC_trans (a b c : Ch) (h1 : leC a b = true) (h2 : leC b c = true) : leC a c = true := by
  rw [leC_iff] at *; omega
theorem leC_total (a b : Ch) : (leC a b || leC b a) = true := by
  rw [Bool.or_eq_true, leC_iff, leC_iff]; omega
theorem leC_anti (a b : Ch) (h1 : leC a b = true) (h2 : leC b a = true) : a = b := by
  rw [leC_iff] at *
  exact Prod.ext (by omega) (by omega)
theorem srt_perm (cs : List Ch) : (srt cs).Perm cs := List.mergeSort_perm cs _
theorem srt_pw (cs : List Ch) : (srt cs).Pairwise fun a b => leC a b = true := List.pairwise_mergeSort leC_trans leC_total cs
theorem srt_len (cs : List Ch) : (srt cs).length = cs.length := (srt_perm cs).length_eq
theorem srt_uni {l cs : List Ch} (hp : l.Perm cs) (hs : l.Pairwise fun a b => leC a b = true) : l = srt cs :=
  List.Perm.eq_of_pairwise (fun a b _ _ h1 h2 => leC_anti a b h1 h2) hs (srt_pw cs) (hp.trans (srt_perm cs).symm)
theorem srt_iff (cs : List Ch) : srt cs = cs ↔ cs.Pairwise fun a b => leC a b = true :=
  ⟨fun h => h ▸ srt_pw cs, fun h => (srt_uni (List.Perm.refl _) h).symm⟩
theorem srt_congr {l cs : List Ch} (hp : l.Perm cs) : srt l = srt cs := srt_uni ((srt_perm l).trans hp) (srt_pw l)

/-- Where a pair is put: from the end on, ahead of what it is before. -/
def putK (l : List Ch) (x : Ch) : Nat → Nat
  | 0 => 0
  | k + 1 => if bef x (l.getD k (0, 0)) = true then putK l x k else k + 1
def putC (l : List Ch) (x : Ch) : List Ch := l.take (putK l x l.length) ++ [x] ++ l.drop (putK l x l.length)
theorem putK_le (l : List Ch) (x : Ch) : ∀ k, putK l x k ≤ k
  | 0 => Nat.le_refl _
  | k + 1 => by unfold putK; split; exact Nat.le_trans (putK_le l x k) (Nat.le_succ _); exact Nat.le_refl _
theorem putC_perm (l : List Ch) (x : Ch) : (putC l x).Perm (x :: l) := by
  unfold putC
  rw [List.append_assoc]
  have h := List.perm_middle (a := x) (l₁ := l.take (putK l x l.length)) (l₂ := l.drop (putK l x l.length))
  rw [List.take_append_drop] at h
  exact h
theorem putC_len (l : List Ch) (x : Ch) : (putC l x).length = l.length + 1 := (putC_perm l x).length_eq
theorem putK_hi (l : List Ch) (x : Ch) : ∀ k j, putK l x k ≤ j → j < k → bef x (l.getD j (0, 0)) = true
  | 0, j, _, h => absurd h (Nat.not_lt_zero _)
  | k + 1, j, h1, h2 => by
    unfold putK at h1
    split at h1
    · rename_i hb
      by_cases e : j = k
      · rw [e]; exact hb
      · exact putK_hi l x k j h1 (by omega)
    · omega
theorem putK_lo (l : List Ch) (x : Ch) : ∀ k, 0 < putK l x k → bef x (l.getD (putK l x k - 1) (0, 0)) = false
  | 0, h => absurd h (Nat.lt_irrefl _)
  | k + 1, h => by
    unfold putK at h ⊢
    split at h
    · rename_i hb
      rw [if_pos hb]; exact putK_lo l x k h
    · rename_i hb
      rw [if_neg hb]
      simpa using hb
theorem getD_elem (l : List Ch) {j : Nat} (h : j < l.length) : l.getD j (0, 0) = l[j] := by
  rw [List.getD_eq_getElem?_getD, List.getElem?_eq_getElem h]; rfl
theorem putC_pw {l : List Ch} (x : Ch) (h : l.Pairwise fun a b => leC a b = true) : (putC l x).Pairwise fun a b => leC a b = true := by
  have hle := putK_le l x l.length
  have hhi := putK_hi l x l.length
  have hlo := putK_lo l x l.length
  unfold putC
  generalize putK l x l.length = k at *
  rw [List.append_assoc, List.pairwise_append]
  have H := List.pairwise_iff_getElem.1 h
  refine ⟨h.sublist (List.take_sublist _ _), ?_, ?_⟩
  · rw [List.singleton_append, List.pairwise_cons]
    refine ⟨fun y hy => ?_, h.sublist (List.drop_sublist _ _)⟩
    obtain ⟨j, hj, rfl⟩ := List.mem_iff_getElem.1 hy
    rw [List.length_drop] at hj
    rw [List.getElem_drop]
    have := hhi (k + j) (by omega) (by omega)
    rw [getD_elem l (by omega), bef_iff] at this
    rw [leC_iff]; omega
  · intro a ha b hb
    obtain ⟨i, hi, rfl⟩ := List.mem_iff_getElem.1 ha
    rw [List.length_take] at hi
    rw [List.getElem_take]
    rw [List.singleton_append, List.mem_cons] at hb
    have hx : leC l[i] x = true := by
      have h0 := hlo (by omega)
      rw [getD_elem l (by omega), ← Bool.not_eq_true, bef_iff] at h0
      by_cases e : i = k - 1
      · subst e; rw [leC_iff]; omega
      · have := H i (k - 1) (by omega) (by omega) (by omega)
        rw [leC_iff] at this ⊢; omega
    rcases hb with rfl | hb
    · exact hx
    · obtain ⟨j, hj, rfl⟩ := List.mem_iff_getElem.1 hb
      rw [List.length_drop] at hj
      rw [List.getElem_drop]
      exact H i (k + j) (by omega) (by omega) (by omega)
theorem foldl_put (xs : List Ch) : ∀ l : List Ch, (l.Pairwise fun a b => leC a b = true) → ((xs.foldl putC l).Pairwise fun a b => leC a b = true) ∧ (xs.foldl putC l).Perm (xs ++ l) := by
  induction xs with
  | nil => exact fun l h => ⟨h, List.Perm.refl _⟩
  | cons x xs ih =>
    intro l h
    obtain ⟨h1, h2⟩ := ih (putC l x) (putC_pw x h)
    refine ⟨h1, h2.trans ?_⟩
    exact (List.Perm.append_left xs (putC_perm l x)).trans List.perm_middle
theorem foldl_srt (xs : List Ch) : xs.foldl putC [] = srt xs := by
  obtain ⟨h1, h2⟩ := foldl_put xs [] List.Pairwise.nil
  exact srt_uni (by simpa using h2) h1

/-- Whether two corners are joined. -/
def jnB (n : Int) (cs : List Ch) (x : Ch) : Bool := sideB n x || cs.any fun y => decide (y = x)
/-- The checks of the model, row by row. -/
def okM (n : Int) (ls : List (List Int)) (i : Nat) : Prop :=
  (ls.getD i []).length = 2 ∧ (0 ≤ (ls.getD i []).getD 0 0 ∧ (ls.getD i []).getD 0 0 ≤ n - 1) ∧ ((ls.getD i []).getD 0 0 + 2 ≤ (ls.getD i []).getD 1 0 ∧ (ls.getD i []).getD 1 0 ≤ n - 1) ∧ ¬ ((ls.getD i []).getD 0 0 = 0 ∧ (ls.getD i []).getD 1 0 = n - 1)
    ∧ (0 < i → bef (rwC (ls.getD (i - 1) [])) (rwC (ls.getD i [])) = true) ∧ ∀ k, k < i → crs (rwC (ls.getD k [])) (rwC (ls.getD i [])) = false
instance (n : Int) (ls : List (List Int)) (i : Nat) : Decidable (okM n ls i) := by unfold okM; infer_instance
def inN (n : Int) (ls : List (List Int)) : Prop := 2 ≤ n ∧ n ≤ 10 ∧ (ls.length : Int) = max 0 (n - 3)
instance (n : Int) (ls : List (List Int)) : Decidable (inN n ls) := by unfold inN; infer_instance
def triB (n : Int) (ls : List (List Int)) : Bool := decide (inN n ls ∧ ∀ i, i < ls.length → okM n ls i)
/-- The checks of the program, row by row, and of pairs. -/
def okR (n : Int) (l : List Int) : Prop := l.length = 2 ∧ 0 ≤ l.getD 0 0 ∧ l.getD 0 0 < l.getD 1 0 ∧ l.getD 1 0 < n
instance (n : Int) (l : List Int) : Decidable (okR n l) := by unfold okR; infer_instance
def okP (n : Int) (cs : List Ch) (i : Nat) : Prop := sideB n (cs.getD i (0, 0)) = false ∧ ∀ k, k < i → cs.getD i (0, 0) ≠ cs.getD k (0, 0) ∧ crs (cs.getD i (0, 0)) (cs.getD k (0, 0)) = false
instance (n : Int) (cs : List Ch) (i : Nat) : Decidable (okP n cs i) := by unfold okP; infer_instance
def cutB (n : Int) (cs : List Ch) : Bool := decide (∀ i, i < cs.length → okP n cs i)

theorem crs_symm (x y : Ch) : crs x y = crs y x := by
  unfold crs; congr 1; exact propext ⟨fun h => h.symm, fun h => h.symm⟩
theorem csT_get (ls : List (List Int)) {i : Nat} (h : i < ls.length) : (csT ls).getD i (0, 0) = rwC (ls.getD i []) := by
  unfold csT
  rw [List.getD_eq_getElem?_getD, List.getElem?_map, List.getD_eq_getElem?_getD, List.getElem?_eq_getElem h]; rfl
theorem csT_len (ls : List (List Int)) : (csT ls).length = ls.length := by simp [csT]
/-- Both checks are one. -/
theorem tri_iff {n : Int} {ls : List (List Int)} (hn : inN n ls) : triB n ls = true ↔ ((∀ i, i < ls.length → okR n (ls.getD i [])) ∧ srt (csT ls) = csT ls ∧ cutB n (csT ls) = true) := by
  unfold triB cutB
  rw [decide_eq_true_iff, decide_eq_true_iff, srt_iff, csT_len]
  have G := fun i (h : i < ls.length) => csT_get ls h
  constructor
  · rintro ⟨-, h⟩
    have hb : ∀ i j, i < j → j < ls.length → bef (rwC (ls.getD i [])) (rwC (ls.getD j [])) = true := by
      intro i j hij
      induction j with
      | zero => omega
      | succ j ih =>
        intro hj
        obtain ⟨-, -, -, -, h5, -⟩ := h (j + 1) hj
        have h5 := h5 (by omega)
        rw [Nat.add_sub_cancel] at h5
        by_cases e : i = j
        · subst e; exact h5
        · have := ih (by omega) (by omega)
          rw [bef_iff] at *; omega
    refine ⟨fun i hi => ?_, ?_, fun i hi => ?_⟩
    · obtain ⟨h1, h2, h3, -⟩ := h i hi
      exact ⟨h1, by omega, by omega, by omega⟩
    · rw [List.pairwise_iff_getElem]
      intro i j hi hj hij
      rw [csT_len] at hi hj
      have := hb i j hij hj
      rw [← getD_elem, ← getD_elem, G i hi, G j hj]
      rw [bef_iff] at this; rw [leC_iff]; omega
    · obtain ⟨h1, h2, h3, h4, -, h6⟩ := h i hi
      unfold okP
      rw [G i hi]
      refine ⟨?_, fun k hk => ?_⟩
      · unfold sideB rwC
        rw [decide_eq_false_iff_not]
        show ¬ ((ls.getD i []).getD 1 0 - (ls.getD i []).getD 0 0 = 1 ∨ ((ls.getD i []).getD 0 0 = 0 ∧ (ls.getD i []).getD 1 0 = n - 1))
        omega
      · rw [G k (by omega)]
        refine ⟨fun e => ?_, by rw [crs_symm]; exact h6 k hk⟩
        have := hb k i hk hi
        rw [← e, bef_iff] at this; omega
  · rintro ⟨h1, h2, h3⟩
    refine ⟨hn, fun i hi => ?_⟩
    obtain ⟨a1, a2, a3, a4⟩ := h1 i hi
    obtain ⟨b1, b2⟩ := h3 i hi
    rw [G i hi] at b1 b2
    unfold sideB at b1
    rw [decide_eq_false_iff_not] at b1
    have b1 : ¬ ((ls.getD i []).getD 1 0 - (ls.getD i []).getD 0 0 = 1 ∨ ((ls.getD i []).getD 0 0 = 0 ∧ (ls.getD i []).getD 1 0 = n - 1)) := b1
    refine ⟨a1, by omega, by omega, by omega, fun h0 => ?_, fun k hk => ?_⟩
    · have h2 := List.pairwise_iff_getElem.1 h2 (i - 1) i (by rw [csT_len]; omega) (by rw [csT_len]; omega) (by omega)
      rw [← getD_elem, ← getD_elem, G i hi, G (i - 1) (by omega)] at h2
      have h3 := (b2 (i - 1) (by omega)).1
      rw [G (i - 1) (by omega)] at h3
      generalize rwC (ls.getD i []) = x at *
      generalize rwC (ls.getD (i - 1) []) = y at *
      rcases hb : bef y x with _ | _
      · have : leC x y = true := by unfold leC; rw [hb]; rfl
        exact absurd (leC_anti x y this h2) h3
      · rfl
    · have := (b2 k hk).2
      rw [G k (by omega), crs_symm] at this
      exact this

end Go.Proofs.Ytkpnfonedfomaaa
