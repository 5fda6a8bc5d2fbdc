/- Plain facts of the order of partitions. -/
import Derived.Test.YtpkfgjlbkiiciaaFact8
import Derived.Test.YtpkfgjlbkiiciaaImpl8E
namespace Go.Proofs.Ytpkfgjlbkiiciaa
open Go.ChangeShapes Go.WideShapes Go.ChangeAt Go.RowKit
set_option linter.unusedVariables false

/-- Elements that are together in the first are so in the second. -/
def fnB (xs ys : List Int) : Bool := decide (∀ i, i < xs.length → ∀ k, k < i → xs.getD i 0 = xs.getD k 0 → ys.getD i 0 = ys.getD k 0)
theorem fnB_no {xs ys : List Int} {i k : Nat} (hi : i < xs.length) (hk : k < i) (h1 : xs.getD i 0 = xs.getD k 0) (h2 : ys.getD i 0 ≠ ys.getD k 0) : fnB xs ys = false := decide_eq_false fun h => h2 (h i hi k hk h1)
def twoB (xs ys : List Int) : Bool := prtB xs && prtB ys && decide (xs.length = ys.length)
def finB (xs ys : List Int) : Bool := twoB xs ys && fnB xs ys
/-- No chord of the first has its ends apart in the second. -/
def chB (xs ys : List Int) : Bool := (chdL xs xs.length).all fun p => ys.getD p.1.toNat 0 == ys.getD p.2.toNat 0
theorem ch_fn (xs ys : List Int) : chB xs ys = fnB xs ys := by
  rw [Bool.eq_iff_iff]
  unfold chB fnB
  rw [List.all_eq_true, decide_eq_true_eq]
  constructor
  · intro h i
    induction i using Nat.strongRecOn with
    | _ i ih =>
      intro hi k hk e
      have hm := chd_has xs xs.length i k hi hk e.symm
      obtain ⟨f, t, ep, ht, hf, he, hno⟩ := chd_mem xs xs.length _ hm
      have hth := laK_there (xs.getD i 0) xs i k hk e.symm
      have h1 := h _ hm
      simp only [Prod.mk.injEq] at ep
      obtain ⟨e1, e2⟩ := ep
      obtain rfl : i = t := by omega
      rw [e1] at h1 hth
      simp only [Int.toNat_natCast, beq_iff_eq] at h1
      rw [← h1]
      by_cases ek : k = f
      · rw [ek]
      · exact ih f hf (by omega) k (by omega) (by rw [he, e])
  · intro h p hp
    obtain ⟨f, t, rfl, ht, hf, he, hno⟩ := chd_mem xs xs.length p hp
    simp only [Int.toNat_natCast, beq_iff_eq]
    exact (h t ht f hf he.symm).symm
/-- Lists of one pattern are renumbered alike. -/
theorem ren_like {L M : List Int} {n : Nat} (h : ∀ i, i < n → ∀ k, k < n → (L.getD i 0 = L.getD k 0 ↔ M.getD i 0 = M.getD k 0)) :
    ∀ i, i ≤ n → (rnN L i).length = (rnN M i).length ∧ rnO L i = rnO M i ∧ ∀ j, j < n → la (L.getD j 0) (rnN L i) = la (M.getD j 0) (rnN M i) := by
  intro i
  induction i with
  | zero => intro _; exact ⟨rfl, rfl, fun j _ => rfl⟩
  | succ i ih =>
    intro hi
    obtain ⟨h1, h2, h3⟩ := ih (by omega)
    have h4 := h3 i (by omega)
    refine ⟨?_, ?_, fun j hj => ?_⟩
    · rw [rnN, rnN, h4]
      split
      · rw [List.length_append, List.length_append, h1]; rfl
      · exact h1
    · rw [rnO, rnO, h2, h4, h1]
    · rw [rnN, rnN, h4]
      split
      · by_cases e : L.getD j 0 = L.getD i 0
        · have e2 := (h j hj i (by omega)).1 e
          rw [e, e2, la_new, la_new, h1]
        · have e2 : M.getD j 0 ≠ M.getD i 0 := fun hh => e ((h j hj i (by omega)).2 hh)
          rw [la_old _ _ _ e, la_old _ _ _ e2]
          exact h3 j hj
      · exact h3 j hj
/-- The pairs of two partitions as numbers. -/
def prL (c : Int) (xs ys : List Int) (i : Nat) : List Int := (List.range i).map fun (q : Nat) => xs.getD q 0 * c + ys.getD q 0
theorem prL_len (c : Int) (xs ys : List Int) (i : Nat) : (prL c xs ys i).length = i := by simp [prL]
theorem prL_succ (c : Int) (xs ys : List Int) (i : Nat) : prL c xs ys (i + 1) = prL c xs ys i ++ [xs.getD i 0 * c + ys.getD i 0] := by simp [prL, List.range_succ]
theorem prL_at (c : Int) (xs ys : List Int) {i q : Nat} (h : q < i) : (prL c xs ys i).getD q 0 = xs.getD q 0 * c + ys.getD q 0 := by simp [prL, List.getD, h]
theorem pair_inj {a b c d m : Int} (hb0 : 0 ≤ b) (hb : b < m) (hd0 : 0 ≤ d) (hd : d < m) : a * m + b = c * m + d ↔ a = c ∧ b = d := by
  constructor
  · intro h
    have e1 : (a * m + b) / m = a := by rw [Int.add_comm, Int.add_mul_ediv_right _ _ (by omega), Int.ediv_eq_zero_of_lt hb0 hb]; omega
    have e2 : (c * m + d) / m = c := by rw [Int.add_comm, Int.add_mul_ediv_right _ _ (by omega), Int.ediv_eq_zero_of_lt hd0 hd]; omega
    have e3 : a = c := by rw [← e1, h, e2]
    subst e3
    exact ⟨rfl, by omega⟩
  · rintro ⟨rfl, rfl⟩; rfl
theorem prt_lt {xs : List Int} (h : prtB xs = true) {i : Nat} (hi : i < xs.length) : 0 ≤ xs.getD i 0 ∧ xs.getD i 0 < (xs.length : Int) ∧ xs.getD i 0 < 9 := by
  obtain ⟨h8, h1⟩ := prt_yes h
  obtain ⟨h2, h3⟩ := h1 i hi
  have := ptN_le xs i
  omega
theorem meet_like {xs ys : List Int} (hx : prtB xs = true) (hy : prtB ys = true) (hl : xs.length = ys.length) :
    rnO (prL 9 xs ys xs.length) xs.length = rnO (prL (xs.length : Int) xs ys xs.length) xs.length := by
  refine (ren_like (n := xs.length) (fun i hi k hk => ?_) xs.length (Nat.le_refl _)).2.1
  rw [prL_at _ _ _ hi, prL_at _ _ _ hk, prL_at _ _ _ hi, prL_at _ _ _ hk]
  have a := prt_lt hy (i := i) (by omega)
  have b := prt_lt hy (i := k) (by omega)
  rw [pair_inj a.1 (by omega) b.1 (by omega), pair_inj a.1 (by omega) b.1 (by omega)]
/-- The meet. -/
def meP (xs ys : List Int) : List Int := if twoB xs ys = true then rnO (prL 9 xs ys xs.length) xs.length else []
theorem two_yes {xs ys : List Int} (h : twoB xs ys = true) : prtB xs = true ∧ prtB ys = true ∧ xs.length = ys.length ∧ xs.length ≤ 8 := by
  unfold twoB at h
  rw [Bool.and_eq_true, Bool.and_eq_true] at h
  exact ⟨h.1.1, h.1.2, of_decide_eq_true h.2, (prt_yes h.1.1).1⟩
theorem meP_len (xs ys : List Int) : (meP xs ys).length ≤ 8 := by
  unfold meP
  split
  · rename_i h
    rw [rnO_len]; exact (two_yes h).2.2.2
  · simp
def rkP (xs : List Int) : Int := if prtB xs = true then (xs.length : Int) - (ptN xs xs.length : Int) else -1
theorem blP_len {xs : List Int} (h : prtB xs = true) : (blP xs).length = ptN xs xs.length := by
  unfold blP; rw [if_pos h, blN_len]

end Go.Proofs.Ytpkfgjlbkiiciaa
