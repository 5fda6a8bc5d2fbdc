/- Two rows of ints, place by place: plain facts. -/
import Derived.Test.YtbbbnnkkjgikbaaFact16W
namespace Go.Proofs.Ytbbbnnkkjgikbaa
set_option linter.unusedVariables false

/-- Place by place. -/
def hh (f : Int → Int → Int) (xs ys : List Int) (n : Nat) : List Int := (List.range n).map fun i => f (xs.getD i 0) (ys.getD i 0)
theorem hh_len (f : Int → Int → Int) (xs ys : List Int) (n : Nat) : (hh f xs ys n).length = n := by simp [hh]
theorem hh_at (f : Int → Int → Int) (xs ys : List Int) (n i : Nat) (h : i < n) : (hh f xs ys n).getD i 0 = f (xs.getD i 0) (ys.getD i 0) := by simp [hh, List.getD, h]
theorem hh_next (f : Int → Int → Int) (xs ys : List Int) (n : Nat) : hh f xs ys (n + 1) = hh f xs ys n ++ [f (xs.getD n 0) (ys.getD n 0)] := by
  unfold hh; rw [List.range_succ, List.map_append]; rfl
def blwB (xs ys : List Int) (n : Nat) : Bool := (List.range n).all fun i => decide (xs.getD i 0 ≤ ys.getD i 0)
theorem blw_iff (xs ys : List Int) (n : Nat) : blwB xs ys n = true ↔ ∀ i, i < n → xs.getD i 0 ≤ ys.getD i 0 := by
  unfold blwB
  rw [List.all_eq_true]
  constructor
  · intro h i hi; exact of_decide_eq_true (h i (List.mem_range.2 hi))
  · intro h i hi; exact decide_eq_true (h i (List.mem_range.1 hi))
theorem blw_no {xs ys : List Int} {n i : Nat} (hi : i < n) (h : ys.getD i 0 < xs.getD i 0) : blwB xs ys n = false := by
  rcases hb : blwB xs ys n with _ | _
  · rfl
  · have := (blw_iff xs ys n).1 hb i hi; omega

/-- Two trees with as many nodes. -/
def fitT (a b : ByteArray) : Bool := binB a && binB b && (a.size == b.size)
theorem fitT_yes {a b : ByteArray} (h : fitT a b = true) : ∃ t u, a = baL (sh t) ∧ b = baL (sh u) ∧ nds t = nds u ∧ nds t ≤ 8 ∧ binB a = true ∧ binB b = true ∧ a.size = b.size := by
  unfold fitT at h
  simp only [Bool.and_eq_true, beq_iff_eq] at h
  obtain ⟨⟨h1, h2⟩, h3⟩ := h
  obtain ⟨t, e1, hn, -⟩ := par_yes h1
  obtain ⟨u, e2, hm, -⟩ := par_yes h2
  refine ⟨t, u, e1, e2, ?_, hn, h1, h2, h3⟩
  rw [e1, e2, baL_size, baL_size, sh_len, sh_len] at h3; omega
theorem fitT_of {a b : ByteArray} (h1 : binB a = true) (h2 : binB b = true) (h3 : a.size = b.size) : fitT a b = true := by unfold fitT; rw [h1, h2, h3]; simp
theorem fitT_no {a b : ByteArray} (h : binB a = false ∨ binB b = false ∨ a.size ≠ b.size) : fitT a b = false := by
  rcases hf : fitT a b with _ | _
  · rfl
  · obtain ⟨-, -, -, -, -, -, h1, h2, h3⟩ := fitT_yes hf
    rcases h with h | h | h
    · rw [h1] at h; cases h
    · rw [h2] at h; cases h
    · exact absurd h3 h
/-- The weights of two trees with as many nodes. -/
theorem fit_wts {a b : ByteArray} (h : fitT a b = true) : ∃ n, n ≤ 8 ∧ (wtsP a).length = n ∧ (wtsP b).length = n ∧ nodesP a = n ∧ nodesP b = n ∧ (∀ j, j < n → 0 ≤ (wtsP a).getD j 0 ∧ (wtsP a).getD j 0 ≤ 8) ∧ (∀ j, j < n → 0 ≤ (wtsP b).getD j 0 ∧ (wtsP b).getD j 0 ≤ 8) := by
  obtain ⟨t, u, rfl, rfl, e, hn, -⟩ := fitT_yes h
  rw [wtsP_sh hn, wtsP_sh (t := u) (by omega)]
  refine ⟨nds t, hn, wts_len t, by rw [wts_len]; omega, nodes_sh t hn, by rw [nodes_sh u (by omega)]; omega, fun j hj => ?_, fun j hj => ?_⟩
  · have := wts_bd t j hj; omega
  · have := wts_bd u j (by omega); omega
noncomputable def lesT (a b : ByteArray) : Bool := fitT a b && blwB (wtsP a) (wtsP b) (wtsP a).length
theorem les_yes {a b : ByteArray} (h : fitT a b = true) : lesT a b = blwB (wtsP a) (wtsP b) (wtsP a).length := by unfold lesT; rw [h]; rfl
theorem les_no {a b : ByteArray} (h : fitT a b = false) : lesT a b = false := by unfold lesT; rw [h]; rfl
noncomputable def mnL (a b : ByteArray) : List Int := hh min (wtsP a) (wtsP b) (wtsP a).length
noncomputable def metP (a b : ByteArray) : ByteArray := if fitT a b = true then wobP (mnL a b) else ⟨#[]⟩
noncomputable def metB (a b : ByteArray) : Bool := fitT a b && wobB (mnL a b)
theorem met_yes {a b : ByteArray} (h : fitT a b = true) : metP a b = wobP (mnL a b) ∧ metB a b = wobB (mnL a b) := by unfold metP metB; rw [if_pos h, h]; exact ⟨rfl, rfl⟩
theorem met_no {a b : ByteArray} (h : fitT a b = false) : metP a b = ⟨#[]⟩ ∧ metB a b = false := by unfold metP metB; rw [if_neg (by rw [h]; simp), h]; exact ⟨rfl, rfl⟩
theorem wob_cases (xs : List Int) : (wobB xs = false ∧ wobP xs = ⟨#[]⟩) ∨ ∃ t, nds t ≤ 8 ∧ wobB xs = true ∧ wobP xs = baL (sh t) := by
  by_cases h : xs.length ≤ 8 ∧ ∃ t, xs = wts t
  · obtain ⟨h8, t, rfl⟩ := h
    have hn : nds t ≤ 8 := by rw [← wts_len]; exact h8
    obtain ⟨h1, h2⟩ := wobP_yes hn
    exact .inr ⟨t, hn, h2, h1⟩
  · obtain ⟨h1, h2⟩ := wobP_no (xs := xs) (by
      by_cases h8 : xs.length ≤ 8
      · exact .inr fun t ht => h ⟨h8, t, ht⟩
      · exact .inl (by omega))
    exact .inl ⟨h2, h1⟩
theorem met_cases (a b : ByteArray) : (metB a b = false ∧ metP a b = ⟨#[]⟩) ∨ ∃ t, nds t ≤ 8 ∧ metB a b = true ∧ metP a b = baL (sh t) := by
  rcases hf : fitT a b with _ | _
  · obtain ⟨h1, h2⟩ := met_no hf
    exact .inl ⟨h2, h1⟩
  · obtain ⟨h1, h2⟩ := met_yes hf
    rw [h1, h2]; exact wob_cases _
/-- The meet of the mirror images, mirrored. -/
noncomputable def jonP (a b : ByteArray) : ByteArray := if metB (mirBP a) (mirBP b) = true then mirBP (metP (mirBP a) (mirBP b)) else ⟨#[]⟩
noncomputable def jonB (a b : ByteArray) : Bool := metB (mirBP a) (mirBP b)

end Go.Proofs.Ytbbbnnkkjgikbaa
