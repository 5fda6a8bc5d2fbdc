/- Plain facts: the sorted list; a number put in at its place. -/
import Derived.Test.YtidfbnfgmacjgaaFact12
namespace Go.Proofs.Ytidfbnfgmacjgaa
set_option linter.unusedVariables false

def leI (x y : Int) : Bool := decide (x ≤ y)
def srtP (xs : List Int) : List Int := if parkB xs = true then xs.mergeSort (fun x y => decide (x ≤ y)) else []
theorem srt_yes {xs : List Int} (h : parkB xs = true) : srtP xs = xs.mergeSort (fun x y => decide (x ≤ y)) := if_pos h
theorem srt_no {xs : List Int} (h : parkB xs = false) : srtP xs = [] := if_neg (by simp [h])
theorem srt_len (xs : List Int) (h : xs.length ≤ 1048576) : (srtP xs).length ≤ 1048576 := by
  unfold srtP
  split
  · simpa using h
  · exact Nat.zero_le _
theorem take_next (xs : List Int) {k : Nat} (h : k < xs.length) : xs.take (k + 1) = xs.take k ++ [xs.getD k 0] := by
  rw [List.take_succ_eq_append_getElem h]
  simp [List.getD, h]
def SrtL (l : List Int) : Prop := l.Pairwise (· ≤ ·)
theorem srt_of {l xs : List Int} (hs : SrtL l) (hp : l.Perm xs) : l = xs.mergeSort (fun x y => decide (x ≤ y)) := by
  have tr : ∀ a b c : Int, decide (a ≤ b) = true → decide (b ≤ c) = true → decide (a ≤ c) = true := fun a b c h1 h2 => by simp at *; omega
  have to : ∀ a b : Int, (decide (a ≤ b) || decide (b ≤ a)) = true := fun a b => by simp; omega
  refine List.Perm.eq_of_pairwise (le := fun a b : Int => a ≤ b) (fun a b _ _ h1 h2 => by omega) hs ?_ (hp.trans (List.mergeSort_perm xs _).symm)
  exact (List.pairwise_mergeSort tr to xs).imp (fun h => by simpa using h)
theorem ins_perm (l : List Int) (x : Int) (p : Nat) : (l.take p ++ [x] ++ l.drop p).Perm (l ++ [x]) := by
  have h : (l.take p ++ l.drop p ++ [x]).Perm (l.take p ++ [x] ++ l.drop p) := by
    rw [List.append_assoc, List.append_assoc]
    exact List.Perm.append_left _ List.perm_append_comm
  rw [List.take_append_drop] at h
  exact h.symm
theorem ins_srt {l : List Int} {x : Int} {p : Nat} (h : SrtL l) (hp : p ≤ l.length) (h0 : p = 0 ∨ l.getD (p - 1) 0 ≤ x) (h1 : ∀ j, p ≤ j → j < l.length → x < l.getD j 0) : SrtL (l.take p ++ [x] ++ l.drop p) := by
  unfold SrtL at *
  have hidx := List.pairwise_iff_getElem.1 h
  have hg : ∀ j (hj : j < l.length), l.getD j 0 = l[j] := fun j hj => by simp [List.getD, hj]
  have hl : ∀ a ∈ l.take p, a ≤ x := fun a ha => by
    obtain ⟨i, hi, rfl⟩ := List.mem_iff_getElem.1 ha
    rw [List.length_take] at hi
    rw [List.getElem_take]
    rcases h0 with h0 | h0
    · omega
    · rw [hg (p - 1) (by omega)] at h0
      by_cases e : i = p - 1
      · subst e; exact h0
      · exact Int.le_trans (hidx i (p - 1) (by omega) (by omega) (by omega)) h0
  have hr : ∀ b ∈ l.drop p, x ≤ b := fun b hb => by
    obtain ⟨i, hi, rfl⟩ := List.mem_iff_getElem.1 hb
    rw [List.length_drop] at hi
    rw [List.getElem_drop]
    have := h1 (p + i) (by omega) (by omega)
    rw [hg (p + i) (by omega)] at this
    omega
  rw [List.pairwise_append]
  refine ⟨?_, h.sublist (List.drop_sublist _ _), ?_⟩
  · rw [List.pairwise_append]
    refine ⟨h.sublist (List.take_sublist _ _), List.pairwise_singleton _ _, fun a ha b hb => ?_⟩
    simp at hb; subst hb
    exact hl a ha
  · intro a ha b hb
    rcases List.mem_append.1 ha with ha | ha
    · exact Int.le_trans (hl a ha) (hr b hb)
    · simp at ha; subst ha
      exact hr b hb

end Go.Proofs.Ytidfbnfgmacjgaa
