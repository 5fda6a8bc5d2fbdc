/- A made row of ints (never beside Impl4C, Impl4Cb). -/
import Derived.Test.YtpelicepgeoopaaInts
namespace Go.Proofs.Ytpelicepgeoopaa
open Go.ChangeShapes Go.WideShapes Go.ChangeAt Go.RowKit
set_option linter.unusedVariables false

def upd (f : Nat → Int) (k : Nat) (y : Int) : Nat → Int := fun q => if q = k then y else f q
theorem upd_at (f : Nat → Int) (k : Nat) (y : Int) : upd f k y k = y := if_pos rfl
theorem upd_ne (f : Nat → Int) {k q : Nat} (y : Int) (h : q ≠ k) : upd f k y q = f q := if_neg h
/-- Block g is a row of m ints that reads f. -/
def TabI (w : World) (g m : Nat) (f : Nat → Int) : Prop := ∃ C : Array Value, w.heap[g]? = some (.cells C 3 (0, 0)) ∧ C.size = m ∧ ∀ j, j < m → C[j]? = some (.int .i64 (f j))
theorem TabI.lt {w : World} {g m : Nat} {f : Nat → Int} (h : TabI w g m f) : g < w.heap.size := by
  obtain ⟨C, h1, -⟩ := h
  exact (Array.getElem?_eq_some_iff.1 h1).1
theorem TabI.cell {w : World} {g m : Nat} {f : Nat → Int} (h : TabI w g m f) {j : Nat} (hj : j < m) : w.cell? ⟨g, j, none⟩ = some (.int .i64 (f j)) ∧ w.frozen? ⟨g, j, none⟩ = false := by
  obtain ⟨C, h1, h2, h3⟩ := h
  refine ⟨?_, by simp [World.frozen?, h1]⟩
  rw [cell_of_row w g j C 3 (0, 0) h1]
  exact h3 j hj
theorem TabI.keep {w w' : World} {g m : Nat} {f : Nat → Int} (h : TabI w g m f) (e : w'.heap[g]? = w.heap[g]?) : TabI w' g m f := by
  obtain ⟨C, h1, h2⟩ := h
  exact ⟨C, e.trans h1, h2⟩
theorem TabI.set {w : World} {g m k : Nat} {f : Nat → Int} (h : TabI w g m f) (hk : k < m) (y : Int) : TabI (w.setCell ⟨g, k, none⟩ (.int .i64 y)) g m (upd f k y) := by
  obtain ⟨C, h1, h2, h3⟩ := h
  refine ⟨C.setIfInBounds k (.int .i64 y), by simp [World.setCell, Array.getElem?_modify, h1], by simpa using h2, fun j hj => ?_⟩
  by_cases e : j = k
  · subst e
    rw [Array.getElem?_setIfInBounds_self_of_lt (by omega), upd_at]
  · rw [Array.getElem?_setIfInBounds_ne (by omega), h3 j hj, upd_ne _ _ e]
theorem TabI.alloc {w : World} {g m : Nat} {f : Nat → Int} (h : TabI w g m f) (o : Obj) : TabI (w.alloc o) g m f :=
  h.keep (by
    have := h.lt
    rw [show (w.alloc o).heap = w.heap.push o from rfl, Array.getElem?_push, if_neg (by omega)])
theorem TabI.made {w : World} {base m : Nat} (h : w.ownsRow base 3 1 (.slice (some ⟨base, 0, none⟩) m m) m (madeCells (Value.int .i64 0).cells (m * 1)).toList) : TabI w base m fun _ => 0 := by
  rcases h.2 with ⟨h1, _⟩ | ⟨g, cap, cur, hv, hb, hh, hnc, hcm, hcur, htake⟩
  · cases h1
  · simp only [Value.slice.injEq, Option.some.injEq, Addr.mk.injEq] at hv
    obtain ⟨⟨rfl, _, _⟩, _, rfl⟩ := hv
    refine ⟨cur, hh, by simpa using hcur, fun j hj => ?_⟩
    have e : cur.toList[j]? = (cur.toList.take (m * 1))[j]? := by rw [List.getElem?_take, if_pos (by omega)]
    rw [← Array.getElem?_toList, e, htake, show (Value.int IntKind.i64 0).cells = #[Value.int .i64 0] from rfl, toList_madeCells_one]
    simp [hj]
theorem OwnI.of_tab {w : World} {lo hi g m n c : Nat} {f : Nat → Int} {xs : List Int} (h : TabI w g m f) (hl : xs.length = n) (hn : n ≤ m) (hx : ∀ j, j < n → xs.getD j 0 = f j) (h1 : lo ≤ g) (h2 : g < hi) : OwnI w lo hi (.slice (some ⟨g, 0, none⟩) n c) xs := by
  obtain ⟨C, h3, h4, h5⟩ := h
  refine ⟨_, c, by rw [hl], .inr ⟨g, C, h1, h2, rfl, h3, fun j hj => ?_⟩⟩
  rw [h5 j (by omega), hx j (by omega)]


end Go.Proofs.Ytpelicepgeoopaa
