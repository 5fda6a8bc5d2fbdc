/- The permutation of a path out of the indexes that are taken off a stack: plain. -/
import Derived.Test.YtamepojgpeblpaaFact31B
namespace Go.Proofs.Ytamepojgpeblpaa
open Go.ChangeShapes Go.WideShapes Go.ChangeAt Go.RowKit
open Go.PlainAid (bt bt_nonneg bt_le get_bt)
set_option linter.unusedVariables false

/-- The numbers from 0 up to n, which is not among them. -/
def asL (n : Nat) : List Int := (List.range n).map fun (k : Nat) => (k : Int)
theorem asL_len (n : Nat) : (asL n).length = n := by simp [asL]
theorem asL_at {n k : Nat} (h : k < n) : (asL n).getD k 0 = (k : Int) := by simp [asL, List.getD, h]
theorem asL_succ (n : Nat) : asL (n + 1) = asL n ++ [(n : Int)] := by simp [asL, List.range_succ]
theorem asL_perm {n : Nat} (h : n ≤ 8) : permB (asL n) = true := by
  refine perm_of ?_ (by rw [asL_len]; exact h) fun x hx => ?_
  · unfold asL
    rw [List.nodup_iff_pairwise_ne, List.pairwise_map]
    exact (List.nodup_iff_pairwise_ne.1 List.nodup_range).imp fun h e => h (by omega)
  · unfold asL at hx
    obtain ⟨k, hk, rfl⟩ := List.mem_map.1 hx
    rw [asL_len]
    have := List.mem_range.1 hk
    omega
/-- The numbers while they are stored. -/
def asP (n : Nat) : Nat → List Int
  | 0 => List.replicate n 0
  | i + 1 => (asP n i).set i (i : Int)
theorem asP_zero (n : Nat) : asP n 0 = List.replicate n 0 := rfl
theorem asP_len (n i : Nat) : (asP n i).length = n := by
  induction i with
  | zero => simp [asP]
  | succ i ih => rw [asP, List.length_set, ih]
theorem asP_step {n i : Nat} (h : i < n) : asP n (i + 1) = (asP n i).set i (i : Int) := rfl
theorem asP_at (n : Nat) : ∀ i, i ≤ n → ∀ j, j < i → (asP n i).getD j 0 = (j : Int) := by
  intro i
  induction i with
  | zero => intro _ j h; omega
  | succ i ih =>
    intro hi j hj
    rw [asP, List.getD_eq_getElem?_getD, List.getElem?_set]
    by_cases e : i = j
    · subst e
      rw [if_pos rfl, if_pos (by rw [asP_len]; omega)]; rfl
    · rw [if_neg e, ← List.getD_eq_getElem?_getD]
      exact ih (by omega) j (by omega)
theorem asP_all (n : Nat) : asP n n = asL n := by
  apply List.ext_getElem
  · rw [asP_len, asL_len]
  · intro i h1 h2
    rw [← getD_el h1, ← getD_el h2]
    rw [asP_len] at h1
    rw [asP_at n n (Nat.le_refl _) i h1, asL_at h1]
theorem tkO_pre (xs : List Int) (s : ByteArray) (i : Nat) : ∀ k, ∃ r, tkO xs s (i + k) = tkO xs s i ++ r := by
  intro k
  induction k with
  | zero => exact ⟨[], by simp⟩
  | succ k ih =>
    obtain ⟨r, hr⟩ := ih
    rw [show i + (k + 1) = i + k + 1 by omega, tkO]
    split
    · exact ⟨r, hr⟩
    · exact ⟨_, by rw [hr, List.append_assoc]⟩
theorem tkO_all {s : ByteArray} (hd : dyck s = true) : ∀ i, i ≤ s.size → (tkO (asL (s.size / 2)) s i ++ psS s i).Perm (asL (psN s i)) := by
  intro i
  induction i with
  | zero => intro _; simp [tkO, psS, psN, asL]
  | succ i ih =>
    intro hi
    have h1 := ih (by omega)
    by_cases e : bt s i = 117
    · rw [tkO, psS, psN, if_pos e, if_pos e, if_pos e, asL_succ, ← List.append_assoc]
      exact h1.append_right _
    · obtain ⟨t1, t2, t3, t4, t5, t6⟩ := ps_top hd (by omega) e
      rw [tkO, psS, psN, if_neg e, if_neg e, if_neg e, asL_at t4]
      refine List.Perm.trans ?_ h1
      rw [List.append_assoc]
      refine List.Perm.append_left _ ?_
      refine List.perm_append_comm.trans ?_
      have e2 : psS s i = (psS s i).dropLast ++ [(psT s i : Int)] := by
        have h3 := List.dropLast_concat_getLast (l := psS s i) (by intro e; rw [e] at t1; simp at t1)
        rw [List.getLast_eq_getElem] at h3
        rw [← t3, List.getD_eq_getElem?_getD, List.getElem?_eq_getElem (by omega)]
        exact h3.symm
      rw [← e2]
theorem tkO_size {s : ByteArray} (hd : dyck s = true) (i : Nat) (hi : i ≤ s.size) : (tkO (asL (s.size / 2)) s i).length + (psS s i).length = psN s i := by
  have := (tkO_all hd i hi).length_eq
  rw [List.length_append, asL_len] at this
  exact this
theorem ps_end {s : ByteArray} (hd : dyck s = true) : psS s s.size = [] ∧ psN s s.size = s.size / 2 := by
  obtain ⟨h1, h2, -⟩ := ps_ok hd s.size (Nat.le_refl _)
  have h0 := (hAt_fit hd s.size (Nat.le_refl _)).1
  obtain ⟨k, hk1, hk2, hk3⟩ := hAt_path hd s.size (Nat.le_refl _)
  have hz := df_low _ _ hk3
  have hr : (rest s s.size).length = 0 := by unfold rest; simp
  exact ⟨List.eq_nil_of_length_eq_zero (by omega), by omega⟩
theorem taken_perm {s : ByteArray} (hd : dyck s = true) : permB (tkO (asL (s.size / 2)) s s.size) = true ∧ (tkO (asL (s.size / 2)) s s.size).length = s.size / 2 := by
  have h1 := tkO_all hd s.size (Nat.le_refl _)
  obtain ⟨h2, h3⟩ := ps_end hd
  rw [h2, List.append_nil, h3] at h1
  have := dyck_size hd
  exact ⟨perm_same (asL_perm (by omega)) h1, by rw [h1.length_eq, asL_len]⟩
theorem ps_iv {s : ByteArray} (hd : dyck s = true) : ∀ i, i ≤ s.size → psO s i = ivL (tkO (asL (s.size / 2)) s s.size) (tkO (asL (s.size / 2)) s i).length := by
  intro i
  induction i with
  | zero => intro _; rw [psO, show (tkO (asL (s.size / 2)) s 0).length = 0 from rfl, ivL, (taken_perm hd).2]
  | succ i ih =>
    intro hi
    have h1 := ih (by omega)
    by_cases e : bt s i = 117
    · rw [psO, if_pos e, h1]
      congr 2
      rw [tkO, if_pos e]
    · obtain ⟨t1, t2, t3, t4, t5, t6⟩ := ps_top hd (by omega) e
      have hs := tkO_size hd i (by omega)
      obtain ⟨r, hr⟩ := tkO_pre (asL (s.size / 2)) s (i + 1) (s.size - (i + 1))
      rw [show i + 1 + (s.size - (i + 1)) = s.size by omega] at hr
      have e2 : tkO (asL (s.size / 2)) s (i + 1) = tkO (asL (s.size / 2)) s i ++ [(psT s i : Int)] := by rw [tkO, if_neg e, asL_at t4]
      have e3 : (tkO (asL (s.size / 2)) s s.size).getD (tkO (asL (s.size / 2)) s i).length 0 = (psT s i : Int) := by
        rw [hr, e2, List.append_assoc, List.getD_eq_getElem?_getD, List.getElem?_append_right (Nat.le_refl _), Nat.sub_self]; rfl
      rw [psO, if_neg e, h1, e2, List.length_append, List.length_singleton, ivL, e3]
      congr 1
      omega
theorem perm_taken {s : ByteArray} (hd : dyck s = true) : permOfP s = ivL (tkO (asL (s.size / 2)) s s.size) (tkO (asL (s.size / 2)) s s.size).length := by
  unfold permOfP
  rw [if_pos hd]
  exact ps_iv hd s.size (Nat.le_refl _)

end Go.Proofs.Ytamepojgpeblpaa
