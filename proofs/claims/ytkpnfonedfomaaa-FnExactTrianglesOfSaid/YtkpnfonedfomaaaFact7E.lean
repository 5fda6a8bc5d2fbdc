/- Ears, plain. -/
import Derived.Test.YtkpnfonedfomaaaFact7
namespace Go.Proofs.Ytkpnfonedfomaaa
set_option linter.unusedVariables false
set_option linter.unusedSimpArgs false

/-- The corners below k that are in no diagonal. -/
def inC (cs : List Ch) (v : Int) : Bool := cs.any fun c => decide (c.1 = v ∨ c.2 = v)
def earF (cs : List Ch) : Nat → List Int
  | 0 => []
  | k + 1 => earF cs k ++ (if inC cs (k : Int) = true then [] else [(k : Int)])
theorem earF_len (cs : List Ch) : ∀ k, (earF cs k).length ≤ k
  | 0 => Nat.le_refl _
  | k + 1 => by unfold earF; rw [List.length_append]; have := earF_len cs k; split <;> simp <;> omega
def earP (n : Int) (ls : List (List Int)) : List Int := if triB n ls = true then earF (csT ls) n.toNat else []
theorem tri_bd {n : Int} {ls : List (List Int)} (h : triB n ls = true) : inN n ls ∧ ls.length ≤ 7 ∧ ∀ i, i < ls.length → okM n ls i := by
  unfold triB at h
  have h := of_decide_eq_true h
  refine ⟨h.1, ?_, h.2⟩
  obtain ⟨h1, h2, h3⟩ := h.1
  omega
theorem earP_len (n : Int) (ls : List (List Int)) : (earP n ls).length ≤ 10 := by
  unfold earP
  split
  · rename_i h
    have := earF_len (csT ls) n.toNat
    obtain ⟨⟨h1, h2, -⟩, -⟩ := tri_bd h
    omega
  · exact Nat.zero_le _
theorem ear_hit (cs : List Ch) (k : Nat) (h : inC cs (k : Int) = true) : earF cs (k + 1) = earF cs k := by unfold earF; rw [if_pos h, List.append_nil]; cases k <;> rfl
theorem ear_free (cs : List Ch) (k : Nat) (h : inC cs (k : Int) = false) : earF cs (k + 1) = earF cs k ++ [(k : Int)] := by
  rw [earF, if_neg (by rw [h]; simp)]
/-- Whether the first i diagonals leave a corner free. -/
def frB (ls : List (List Int)) (v : Int) : Nat → Bool
  | 0 => true
  | i + 1 => (frB ls v i && !decide ((ls.getD i []).getD 0 0 = v)) && !decide ((ls.getD i []).getD 1 0 = v)
theorem frB_take (ls : List (List Int)) (v : Int) : ∀ i, i ≤ ls.length → frB ls v i = !inC (csT (ls.take i)) v
  | 0, _ => rfl
  | i + 1, h => by
    have e : csT (ls.take (i + 1)) = csT (ls.take i) ++ [rwC (ls.getD i [])] := by
      unfold csT
      rw [List.take_add_one, List.map_append, List.getD_eq_getElem?_getD, List.getElem?_eq_getElem (by omega)]; rfl
    rw [frB, frB_take ls v i (by omega), e]
    unfold inC
    rw [List.any_append]
    simp only [List.any_cons, List.any_nil, Bool.or_false, Bool.not_or]
    rw [Bool.and_assoc]
    congr 1
    unfold rwC
    by_cases h1 : (ls.getD i []).getD 0 0 = v <;> by_cases h2 : (ls.getD i []).getD 1 0 = v <;> simp [h1, h2]
theorem frB_all (ls : List (List Int)) (v : Int) : frB ls v ls.length = !inC (csT ls) v := by
  rw [frB_take ls v ls.length (Nat.le_refl _), List.take_length]

end Go.Proofs.Ytkpnfonedfomaaa
