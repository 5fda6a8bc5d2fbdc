/- The program's polygonOf. -/
import Derived.Test.YtkpnfonedfomaaaImpl7D
import Derived.Test.YtkpnfonedfomaaaTblLZ
namespace Go.Proofs.Ytkpnfonedfomaaa
open Go.ChangeShapes Go.WideShapes Go.ChangeAt Go.RowKit
set_option linter.unusedVariables false

theorem tri_no7 {n : Int} {ls : List (List Int)} (h : ¬ inN n ls) : triB n ls = false := decide_eq_false fun h2 => h h2.1
theorem tri_row {n : Int} {ls : List (List Int)} (hn : inN n ls) {i : Nat} (hi : i < ls.length) (h : ¬ okR n (ls.getD i [])) : triB n ls = false := by
  rcases ht : triB n ls with _ | _
  · rfl
  · exact absurd (((tri_iff hn).1 ht).1 i hi) h
/-- What polygonOf answers. -/
def PgIs (n : Int) (ls : List (List Int)) (v : Value) : Prop := (triB n ls = true ∧ v = pgV n ls.length (flF (csT ls))) ∨ (triB n ls = false ∧ v = pgV 0 0 (fun _ => 0))
theorem csT_take (ls : List (List Int)) {i : Nat} (hi : i < ls.length) : csT (ls.take (i + 1)) = csT (ls.take i) ++ [rwC (ls.getD i [])] := by
  unfold csT
  rw [List.take_add_one, List.map_append, List.getD_eq_getElem?_getD, List.getElem?_eq_getElem hi]; rfl
theorem csT_tl (ls : List (List Int)) {i : Nat} (hi : i ≤ ls.length) : (csT (ls.take i)).length = i := by rw [csT_len, List.length_take]; omega
theorem bd_csT {n : Int} {ls : List (List Int)} (hn : inN n ls) (h : ∀ i, i < ls.length → okR n (ls.getD i [])) : bdC (csT ls) := by
  intro i
  by_cases hi : i < ls.length
  · obtain ⟨-, h1, h2, h3⟩ := h i hi
    obtain ⟨a1, a2, -⟩ := hn
    rw [csT_get ls hi]
    exact ⟨⟨by show -100 ≤ (ls.getD i []).getD 0 0; omega, by show (ls.getD i []).getD 0 0 ≤ 100; omega⟩, ⟨by show -100 ≤ (ls.getD i []).getD 1 0; omega, by show (ls.getD i []).getD 1 0 ≤ 100; omega⟩⟩
  · rw [List.getD_eq_getElem?_getD, List.getElem?_eq_none (by rw [csT_len]; omega)]
    exact ⟨⟨by decide, by decide⟩, ⟨by decide, by decide⟩⟩

end Go.Proofs.Ytkpnfonedfomaaa
