/- A part of a row of ints, from one of its places on (never beside Spec6F). -/
import Derived.Test.YtamepojgpeblpaaTwo31
namespace Go.Proofs.Ytamepojgpeblpaa
open Go.ChangeShapes Go.WideShapes Go.ChangeAt Go.RowKit
set_option linter.unusedVariables false

/-- A part of a row of ints, from one of its places on. -/
theorem run_from (w : World) (a : Option Addr) (len cap n : Nat) (hn : n ≤ len) : (Instr.slice 22 (.slice a len cap) (some (.int .i64 (n : Int))) none none).run Try.prog w = .ok (.slice (if cap = n then a else a.map (·.add n)) (len - n) (cap - n)) w := by
  obtain ⟨i0, hi, -, -, -⟩ := info_parts info3
  have he : Try.prog.elem 22 = 3 := by kernel_rfl
  have hc : Try.prog.cellsOf 3 = 1 := by kernel_rfl
  have hu : Try.prog.underlying 22 = some (.slice (Try.prog.elem 22)) := by rw [he]; exact Try.underlying22
  rw [run_slice_l w _ a len cap hu .i64 (n : Int) (by omega) (by omega), he, run_sizeOf w hi, hc]
  simp [sliced, Result.andThen]
/-- The ints xs at a place of a row. -/
def SubI (w : World) (A : Option Addr) (cap : Nat) (xs : List Int) : Prop := xs.length ≤ cap ∧ ∀ j, j < xs.length → ∃ g o, A = some ⟨g, o, none⟩ ∧ w.cell? ⟨g, o + j, none⟩ = some (.int .i64 (xs.getD j 0))
theorem SubI.from {w : World} {A : Option Addr} {cap : Nat} {xs : List Int} (h : SubI w A cap xs) (n : Nat) (hn : n ≤ xs.length) : SubI w (if cap = n then A else A.map (·.add n)) (cap - n) (xs.drop n) := by
  refine ⟨by rw [List.length_drop]; have := h.1; omega, fun j hj => ?_⟩
  rw [List.length_drop] at hj
  have h1 := h.1
  obtain ⟨g, o, rfl, hc⟩ := h.2 (n + j) (by omega)
  rw [if_neg (by omega)]
  refine ⟨g, o + n, ?_, ?_⟩
  · show some (Addr.add _ n) = _
    unfold Addr.add
    split
    · rename_i h; subst h; rfl
    · rfl
  · rw [Nat.add_assoc, hc]; simp [List.getD]
theorem SubI.own {w : World} {lo hi : Nat} {A : Option Addr} {cap : Nat} {xs : List Int} (h : OwnI w lo hi (.slice A xs.length cap) xs) (hc : xs.length ≤ cap) : SubI w A cap xs := by
  refine ⟨hc, fun j hj => ?_⟩
  obtain ⟨g, c, e', h1, h2, h3, -⟩ := h.cell hj
  simp only [Value.slice.injEq] at e'
  exact ⟨g, 0, e'.1, by rw [Nat.zero_add]; exact h3⟩
theorem SubI.keep {w w' : World} {A : Option Addr} {cap : Nat} {xs : List Int} (h : SubI w A cap xs) (hb : Below w.heap.size w w') : SubI w' A cap xs := by
  refine ⟨h.1, fun j hj => ?_⟩
  obtain ⟨g, o, e, hc⟩ := h.2 j hj
  exact ⟨g, o, e, (hb.cell (p := ⟨g, o + j, none⟩) (World.block_lt_of_cell? _ _ hc)).trans hc⟩

end Go.Proofs.Ytamepojgpeblpaa
