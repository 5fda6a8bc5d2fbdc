/- A table of ints that came in, as a row's argument: from its reading to ArgT. -/
import Derived.Test.YtkpnfonedfomaaaArgT
import Derived.Deep.Matrix
import Derived.WalkKit
import Derived.ProofKit
import Derived.OpenShut
namespace Go.Proofs.Ytkpnfonedfomaaa
open Go.ChangeShapes Go.WideShapes Go.ChangeAt Go.RowKit Go.Deep
set_option linter.unusedVariables false

theorem cell_lt {w : World} {a : Addr} {v : Value} (h : w.cell? a = some v) : a.block < w.heap.size := World.block_lt_of_cell? _ _ h
theorem argT_of {H : Type} {enc : TypeId × Value → H} {W : World} {base fuel : Nat} {held : Bool} {a0 : Option Addr} {len0 cap0 : Nat} {x : DataW H × List MemPlace}
    (hf : DataW.trod enc Try.prog W base (fun _ => true) held fuel 22 (Value.slice a0 len0 cap0).cells.toList = some x) :
    ∃ ls : List (List Int), ls.length = len0 ∧ ArgT W (.slice a0 len0 cap0) ls ∧ len0 ≤ maxLen ∧ (∀ j, (ls.getD j []).length ≤ maxLen) ∧ ∀ j, j < ls.length → ∀ y ∈ ls.getD j [], (Lit.int .i64 y).wf = true := by
  rcases open_int_rows Try.underlying22 Try.underlying35 Try.underlying3 (by kernel_rfl) (by kernel_rfl) hf with ⟨hcs, -⟩ | ⟨a, len', cap', A, L, C, Z, hcs, -, hl, hm, -, hrows⟩
  · simp [Value.cells] at hcs
    obtain ⟨rfl, rfl, rfl⟩ := hcs
    exact ⟨[], rfl, ⟨none, 0, rfl, fun j hj => by simp at hj⟩, Nat.zero_le _, fun j => by simp, fun j hj => by simp at hj⟩
  · simp [Value.cells] at hcs
    obtain ⟨rfl, rfl, rfl⟩ := hcs
    obtain ⟨ls, hls⟩ : ∃ ls, ls = (List.range len0).map fun r => (Z r).take (L r) := ⟨_, rfl⟩
    have hlen : ls.length = len0 := by rw [hls]; simp
    have hat : ∀ j, j < len0 → ls.getD j [] = (Z j).take (L j) := fun j hj => by rw [hls]; simp [List.getD, hj]
    have hout : ∀ j, ¬ j < len0 → ls.getD j [] = [] := fun j hj => by rw [List.getD_eq_getElem?_getD, List.getElem?_eq_none (by omega)]; rfl
    refine ⟨ls, hlen, ⟨some a, cap0, by rw [hlen], fun j hj => ?_⟩, by omega, fun j => ?_, fun j hj y hy => ?_⟩
    · rw [hlen] at hj
      obtain ⟨h1, h2, h3, h4, h5, h6, h7⟩ := hrows j (by omega)
      refine ⟨a, _, rfl, ?_, h1, ?_⟩
      · have := cell_lt h1; rwa [add_block] at this
      · rw [hat j hj]
        have hle : ((Z j).take (L j)).length = L j := by rw [List.length_take]; omega
        refine ⟨A j, C j, by rw [hle], fun i hi => ?_⟩
        rw [hle] at hi
        rcases hA : A j with _ | a'
        · have := h6 hA; omega
        · obtain ⟨-, h8⟩ := h7 a' hA
          have h9 := h8 i (by omega)
          refine ⟨a', rfl, by have := cell_lt h9; rwa [add_block] at this, ?_⟩
          rw [h9, List.getD_eq_getElem?_getD, List.getD_eq_getElem?_getD, List.getElem?_take, if_pos (by omega)]
    · by_cases hj : j < len0
      · obtain ⟨h1, h2, h3, h4, -⟩ := hrows j (by omega)
        rw [hat j hj, List.length_take]; omega
      · rw [hout j hj]; exact Nat.zero_le _
    · rw [hlen] at hj
      obtain ⟨-, -, -, -, h5, -⟩ := hrows j (by omega)
      rw [hat j hj] at hy
      exact h5 y (List.mem_of_mem_take hy)

end Go.Proofs.Ytkpnfonedfomaaa
