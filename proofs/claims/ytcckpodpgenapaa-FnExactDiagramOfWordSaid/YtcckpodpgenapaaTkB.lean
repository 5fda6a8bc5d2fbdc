/- A made row of truth values. -/
import Derived.Test.YtcckpodpgenapaaInts
namespace Go.Proofs.Ytcckpodpgenapaa
open Go.ChangeShapes Go.WideShapes Go.ChangeAt Go.RowKit
set_option linter.unusedVariables false

theorem infoB : (Try.prog.info? 4).map (fun i => (i.zero, i.size, i.bytes)) = some (some (.bool false), 1, 1) := by kernel_rfl
/-- Block g holds m truth values. -/
def TkB (w : World) (g m : Nat) (f : Nat → Bool) : Prop := ∃ C : Array Value, w.heap[g]? = some (.cells C 4 (0, 0)) ∧ C.size = m ∧ ∀ q, q < m → C[q]? = some (.bool (f q))
theorem TkB.lt {w : World} {g m : Nat} {f : Nat → Bool} (h : TkB w g m f) : g < w.heap.size := by
  obtain ⟨C, h1, -⟩ := h
  exact (Array.getElem?_eq_some_iff.1 h1).1
theorem TkB.cell {w : World} {g m : Nat} {f : Nat → Bool} (h : TkB w g m f) {q : Nat} (hq : q < m) : w.cell? ⟨g, q, none⟩ = some (.bool (f q)) ∧ w.frozen? ⟨g, q, none⟩ = false := by
  obtain ⟨C, h1, -, h2⟩ := h
  refine ⟨?_, by simp [World.frozen?, h1]⟩
  rw [cell_of_row w g q C _ (0, 0) h1]
  exact h2 q hq
theorem TkB.set {w : World} {g m k : Nat} {f f' : Nat → Bool} {y : Bool} (h : TkB w g m f) (hk : k < m) (hy : f' k = y) (ho : ∀ q, q < m → q ≠ k → f' q = f q) : TkB (w.setCell ⟨g, k, none⟩ (.bool y)) g m f' := by
  obtain ⟨C, h1, h0, h2⟩ := h
  refine ⟨C.setIfInBounds k (.bool y), by simp [World.setCell, Array.getElem?_modify, h1], by simpa using h0, fun q hq => ?_⟩
  by_cases e : q = k
  · subst e
    rw [Array.getElem?_setIfInBounds_self_of_lt (by omega), hy]
  · rw [Array.getElem?_setIfInBounds_ne (by omega), h2 q hq, ho q hq e]
theorem TkB.keep {w w' : World} {g m : Nat} {f : Nat → Bool} (h : TkB w g m f) (e : w'.heap[g]? = w.heap[g]?) : TkB w' g m f := by
  obtain ⟨C, h1, h2⟩ := h
  exact ⟨C, e.trans h1, h2⟩
theorem TkB.alloc {w : World} {g m : Nat} {f : Nat → Bool} (h : TkB w g m f) (o : Obj) : TkB (w.alloc o) g m f :=
  h.keep (by
    have := h.lt
    rw [show (w.alloc o).heap = w.heap.push o from rfl, Array.getElem?_push, if_neg (by omega)])
theorem TkB.same {w : World} {g m : Nat} {f f' : Nat → Bool} (h : TkB w g m f) (ho : ∀ q, q < m → f' q = f q) : TkB w g m f' := by
  obtain ⟨C, h1, h0, h2⟩ := h
  exact ⟨C, h1, h0, fun q hq => by rw [h2 q hq, ho q hq]⟩
theorem TkB.made {w : World} {base m : Nat} {b0 : Nat} (h : w.ownsRow b0 4 1 (.slice (some ⟨base, 0, none⟩) m m) m (madeCells (Value.bool false).cells (m * 1)).toList) : TkB w base m fun _ => false := by
  rcases h.2 with ⟨h1, _⟩ | ⟨g, cap, cur, hv, hb, hh, hnc, hcm, hcur, htake⟩
  · cases h1
  · simp only [Value.slice.injEq, Option.some.injEq, Addr.mk.injEq] at hv
    obtain ⟨⟨rfl, _, _⟩, _, rfl⟩ := hv
    refine ⟨cur, hh, by simpa using hcur, fun j hj => ?_⟩
    have e : cur.toList[j]? = (cur.toList.take (m * 1))[j]? := by rw [List.getElem?_take, if_pos (by omega)]
    rw [← Array.getElem?_toList, e, htake, show (Value.bool false).cells = #[Value.bool false] from rfl, toList_madeCells_one]
    simp [hj]

end Go.Proofs.Ytcckpodpgenapaa
