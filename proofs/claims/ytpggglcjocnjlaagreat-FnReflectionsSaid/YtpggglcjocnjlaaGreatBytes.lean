/- Rows of bytes that the call owns. -/
import Derived.Test.YtpggglcjocnjlaaGreatRows
import Derived.WalkKit
import Derived.ProofKit
import Derived.Below
import Derived.OwnWalk
import Derived.Laws.BytesArg
import Derived.Lib.OthersKept
import Derived.WalkSmall
namespace Go.Proofs.YtpggglcjocnjlaaGreat
open Go.ChangeShapes Go.WideShapes Go.ChangeAt Go.RowKit
set_option linter.unusedVariables false

/-- Block g of the world is a row of m bytes, byte j being f j. -/
def RowOf (w : World) (g m : Nat) (f : Nat → Int) : Prop := ∃ C : Array Value, w.heap[g]? = some (.cells C 5 (0, 0)) ∧ C.size = m ∧ ∀ j, j < m → C[j]? = some (.int .u8 (f j))
theorem RowOf.cell {w : World} {g m : Nat} {f : Nat → Int} (h : RowOf w g m f) {j : Nat} (hj : j < m) : w.cell? ⟨g, j, none⟩ = some (.int .u8 (f j)) := by
  obtain ⟨C, h1, h2, h3⟩ := h
  rw [cell_of_row w g j C 5 (0, 0) h1]
  exact h3 j hj
theorem RowOf.free {w : World} {g m : Nat} {f : Nat → Int} (h : RowOf w g m f) (j : Nat) : w.frozen? ⟨g, j, none⟩ = false := by
  obtain ⟨C, h1, h2, h3⟩ := h
  simp [World.frozen?, h1]
theorem RowOf.iter {w : World} {g m : Nat} {f : Nat → Int} (h : RowOf w g m f) (s : ByteArray) (p : Nat) : RowOf (w.iter s p) g m f := by
  obtain ⟨C, h1, h2, h3⟩ := h
  have hlt : g < w.heap.size := by
    rcases Nat.lt_or_ge g w.heap.size with h | h
    · exact h
    · rw [Array.getElem?_eq_none h] at h1; cases h1
  exact ⟨C, (Below.heap_alloc w _ g hlt).trans h1, h2, h3⟩
theorem RowOf.lt {w : World} {g m : Nat} {f : Nat → Int} (h : RowOf w g m f) : g < w.heap.size := by
  obtain ⟨C, h1, h2, h3⟩ := h
  rcases Nat.lt_or_ge g w.heap.size with h | h
  · exact h
  · rw [Array.getElem?_eq_none h] at h1; cases h1
theorem RowOf.set {w : World} {g m : Nat} {f : Nat → Int} (h : RowOf w g m f) (q : Nat) (y : Int) (f' : Nat → Int) (hq : f' q = y) (ho : ∀ j, j ≠ q → f' j = f j) :
    RowOf (w.setCell ⟨g, q, none⟩ (.int .u8 y)) g m f' := by
  obtain ⟨C, h1, h2, h3⟩ := h
  refine ⟨C.setIfInBounds q (.int .u8 y), by simp [World.setCell, Array.getElem?_modify, h1], by simpa using h2, fun j hj => ?_⟩
  by_cases e : j = q
  · subst e
    rw [Array.getElem?_setIfInBounds_self_of_lt (by omega), hq]
  · rw [Array.getElem?_setIfInBounds_ne (by omega), h3 j hj, ho j e]
theorem RowOf.made {w : World} {base m : Nat} (h : w.ownsRow base 5 1 (.slice (some ⟨base, 0, none⟩) m m) m (madeCells (Value.int .u8 0).cells (m * 1)).toList) : RowOf w base m fun _ => 0 := by
  rcases h.2 with ⟨h1, _⟩ | ⟨g, cap, cur, hv, hb, hh, hnc, hcm, hcur, htake⟩
  · cases h1
  · simp only [Value.slice.injEq, Option.some.injEq, Addr.mk.injEq] at hv
    obtain ⟨⟨rfl, _, _⟩, _, rfl⟩ := hv
    refine ⟨cur, hh, by simpa using hcur, fun j hj => ?_⟩
    have e : cur.toList[j]? = (cur.toList.take (m * 1))[j]? := by rw [List.getElem?_take, if_pos (by omega)]
    rw [← Array.getElem?_toList, e, htake, show (Value.int IntKind.u8 0).cells = #[Value.int .u8 0] from rfl, toList_madeCells_one]
    simp [hj]
theorem RowOf.conv {w : World} {g m : Nat} {f : Nat → Int} (h : RowOf w g m f) : (convert 22 9 (.slice (some ⟨g, 0, none⟩) m m)).run Tryz.prog w = .ok (.string (strOfNums ((List.range m).map f))) w := by
  refine run_convert_bytes_arg w 22 5 Tryz.underlying22 Tryz.underlying5 g 0 m m _ (by simp) (fun i hi => ?_) 9 Tryz.underlying9
  rw [Nat.zero_add, h.cell hi]
  simp [List.getD, hi]
set_option maxRecDepth 100000 in
theorem RowOf.keep {w w' : World} {g m : Nat} {f : Nat → Int} (h : RowOf w g m f) (e : w'.heap[g]? = w.heap[g]?) : RowOf w' g m f := by
  obtain ⟨C, h1, h2, h3⟩ := h
  exact ⟨C, e.trans h1, h2, h3⟩
theorem RowOf.same {w : World} {g m : Nat} {f f' : Nat → Int} (h : RowOf w g m f) (ho : ∀ q, q < m → f' q = f q) : RowOf w g m f' := by
  obtain ⟨C, h1, h2, h3⟩ := h
  exact ⟨C, h1, h2, fun q hq => by rw [h3 q hq, ho q hq]⟩
theorem RowOf.ne_iter {w : World} {k g m : Nat} {f : Nat → Int} {s : ByteArray} {i : Nat} (h : RowOf w g m f) (hk : w.heap[k]? = some (.stringIter s i)) : g ≠ k := by
  obtain ⟨C, h1, -⟩ := h
  intro e
  rw [e, hk] at h1
  simp at h1
theorem RowOf.iterAt {w : World} {k g m : Nat} {f : Nat → Int} {s : ByteArray} {i j : Nat} (h : RowOf w g m f) (hk : w.heap[k]? = some (.stringIter s i)) : RowOf (w.iterAt k s j) g m f :=
  h.keep (Lib.iterAt_other _ _ _ _ _ (h.ne_iter hk))
theorem RowOf.alloc {w : World} {g m : Nat} {f : Nat → Int} (h : RowOf w g m f) (o : Obj) : RowOf (w.alloc o) g m f :=
  h.keep (by
    have := h.lt
    rw [show (w.alloc o).heap = w.heap.push o from rfl, Array.getElem?_push, if_neg (by omega)])
theorem infoB : (Tryz.prog.info? 5).map (fun i => (i.zero, i.size, i.bytes)) = some (some (.int .u8 0), 1, 1) := by kernel_rfl

end Go.Proofs.YtpggglcjocnjlaaGreat
