/- Blocks that are rows of ints, and rows that are cut short. -/
import Derived.Test.YtkpnfonedfomaaaSpec2G
import Derived.Carry
import Derived.Laws.CopyOwn
namespace Go.Proofs.Ytkpnfonedfomaaa
open Go.ChangeShapes Go.WideShapes Go.ChangeAt Go.RowKit
set_option linter.unusedVariables false

/-- Block g is a row of the ints l. -/
def TbR (w : World) (g : Nat) (l : List Int) : Prop := w.heap[g]? = some (Obj.cells (l.map (Value.int .i64)).toArray 3 (0, 0))
theorem TbR.lt {w : World} {g : Nat} {l : List Int} (h : TbR w g l) : g < w.heap.size := (Array.getElem?_eq_some_iff.1 h).1
theorem TbR.cell {w : World} {g : Nat} {l : List Int} (h : TbR w g l) {j : Nat} (hj : j < l.length) : w.cell? ⟨g, j, none⟩ = some (.int .i64 (l.getD j 0)) ∧ w.frozen? ⟨g, j, none⟩ = false := by
  refine ⟨?_, by simp [World.frozen?, show w.heap[g]? = _ from h]⟩
  rw [cell_of_row w g j _ 3 (0, 0) h]
  simp [List.getD, hj]
theorem TbR.set {w : World} {g : Nat} {l : List Int} (h : TbR w g l) (q : Nat) (y : Int) : TbR (w.setCell ⟨g, q, none⟩ (.int .i64 y)) g (l.set q y) := by
  unfold TbR at h ⊢
  simp [World.setCell, Array.getElem?_modify, h, List.map_set]
theorem TbR.other {w : World} {g g' q : Nat} {l : List Int} (h : TbR w g l) (hne : g' ≠ g) (y : Value) : TbR (w.setCell ⟨g', q, none⟩ y) g l := by
  unfold TbR at h ⊢
  simp [World.setCell, Array.getElem?_modify, hne, h]
theorem TbR.keep {w w' : World} {g : Nat} {l : List Int} (h : TbR w g l) (e : w'.heap[g]? = w.heap[g]?) : TbR w' g l := e.trans h
theorem TbR.alloc {w : World} {g : Nat} {l : List Int} (h : TbR w g l) (o : Obj) : TbR (w.alloc o) g l :=
  h.keep (by
    have := h.lt
    rw [show (w.alloc o).heap = w.heap.push o from rfl, Array.getElem?_push, if_neg (by omega)])
theorem TbR.iterAt {w : World} {k g : Nat} {l : List Int} {s : ByteArray} {i j : Nat} (h : TbR w g l) (hk : w.heap[k]? = some (.stringIter s i)) : TbR (w.iterAt k s j) g l :=
  h.keep (Lib.iterAt_other _ _ _ _ _ (by intro e; unfold TbR at h; rw [e, hk] at h; simp at h))
theorem TbR.made {w : World} {base m : Nat} (h : w.ownsRow base 3 1 (.slice (some ⟨base, 0, none⟩) m m) m (madeCells (Value.int .i64 0).cells (m * 1)).toList) : TbR w base (List.replicate m 0) := by
  rcases h.2 with ⟨h1, _⟩ | ⟨g, cap, cur, hv, hb, hh, hnc, hcm, hcur, htake⟩
  · cases h1
  · simp only [Value.slice.injEq, Option.some.injEq, Addr.mk.injEq] at hv
    obtain ⟨⟨rfl, _, _⟩, _, rfl⟩ := hv
    unfold TbR
    rw [hh]
    congr 2
    apply Array.toList_inj.1
    rw [show (Value.int IntKind.i64 0).cells = #[Value.int .i64 0] from rfl, toList_madeCells_one, List.take_of_length_le (by rw [Array.length_toList, hcur]; exact Nat.le_refl _)] at htake
    rw [htake]; simp
theorem TbR.own {w : World} {g lo : Nat} {l : List Int} (h : TbR w g l) (hg : lo ≤ g) (cap : Nat) : OwnI w lo w.heap.size (.slice (some ⟨g, 0, none⟩) l.length cap) l :=
  ⟨_, cap, rfl, .inr ⟨g, _, hg, h.lt, rfl, h, fun j hj => by simp [List.getD, hj]⟩⟩

/-- A function that answers the ints xs in memory of its own, and whether. -/
def AnsIB (xs : List Int) (b : Bool) (w : World) (e : Ending) (w' : World) : Prop := ∃ v, e = .returned (.tuple #[v, .bool b]) ∧ OwnI w' w.heap.size w'.heap.size v xs ∧ Below w.heap.size w w'
theorem ret_ib {A A' : Value} {x y : Bool} (h : A = A') (h' : x = y) : Ending.returned (.tuple #[A, .bool x]) = .returned (.tuple #[A', .bool y]) := by rw [h, h']

/-- A row of ints that the call owns. -/
def RowN (w : World) (base : Nat) (v : Value) (l : List Int) : Prop := w.ownsRow base 3 1 v l.length (l.map (Value.int .i64))
theorem RowN.lt {w : World} {base g n cap : Nat} {l : List Int} (h : RowN w base (.slice (some ⟨g, 0, none⟩) n cap) l) : base ≤ g ∧ g < w.heap.size := World.ownsRow.lt h _ rfl
theorem RowN.form {w : World} {base : Nat} {v : Value} {l : List Int} (h : RowN w base v l) : ∃ A cap, v = .slice A l.length cap ∧ (0 < l.length → ∃ g, A = some ⟨g, 0, none⟩ ∧ base ≤ g ∧ g < w.heap.size ∧ l.length ≤ cap) := by
  have hh := h
  obtain ⟨-, h⟩ := h
  rcases h with ⟨rfl, h0⟩ | ⟨g, cap, cur, rfl, hb, hg, hn, -⟩
  · exact ⟨none, 0, by rw [h0], fun h => by omega⟩
  · exact ⟨_, cap, rfl, fun _ => ⟨g, rfl, hb, (Array.getElem?_eq_some_iff.1 hg).1, hn⟩⟩
theorem RowN.cell {w : World} {base g n cap : Nat} {l : List Int} (h : RowN w base (.slice (some ⟨g, 0, none⟩) n cap) l) {j : Nat} (hj : j < l.length) : w.cell? ⟨g, j, none⟩ = some (.int .i64 (l.getD j 0)) ∧ w.frozen? ⟨g, j, none⟩ = false := by
  obtain ⟨-, h⟩ := h
  rcases h with ⟨h1, h0⟩ | ⟨g', cap', cur, hv, hb, hg, hn, hcap, hsz, ht⟩
  · cases h1
  · simp only [Value.slice.injEq, Option.some.injEq, Addr.mk.injEq] at hv
    obtain ⟨⟨rfl, -, -⟩, rfl, rfl⟩ := hv
    refine ⟨?_, by simp [World.frozen?, hg]⟩
    rw [cell_of_row w g j cur 3 (0, 0) hg]
    have e : cur.toList[j]? = (cur.toList.take (l.length * 1))[j]? := by rw [List.getElem?_take, if_pos (by omega)]
    rw [← Array.getElem?_toList, e, ht]
    simp [List.getD, hj]
/-- The row without its last int. -/
theorem RowN.cut {w : World} {base g n cap : Nat} {l : List Int} (h : RowN w base (.slice (some ⟨g, 0, none⟩) n cap) l) : RowN w base (.slice (some ⟨g, 0, none⟩) (n - 1) cap) l.dropLast := by
  obtain ⟨h0, h⟩ := h
  rcases h with ⟨h1, -⟩ | ⟨g', cap', cur, hv, hb, hg, hn, hcap, hsz, ht⟩
  · cases h1
  · simp only [Value.slice.injEq, Option.some.injEq, Addr.mk.injEq] at hv
    obtain ⟨⟨rfl, -, -⟩, rfl, rfl⟩ := hv
    refine ⟨by simp, .inr ⟨g, cap, cur, by rw [List.length_dropLast], hb, hg, by rw [List.length_dropLast]; omega, hcap, hsz, ?_⟩⟩
    rw [List.length_dropLast, List.map_dropLast, ← ht, List.dropLast_eq_take, List.take_take, List.length_take]
    have hcz : cur.toList.length = cur.size := Array.length_toList
    congr 1; omega
theorem RowN.keep {w w' : World} {base : Nat} {v : Value} {l : List Int} (h : RowN w base v l) (hb : ∀ g, base ≤ g → g < w.heap.size → v.ownBlock = some g → w'.heap[g]? = w.heap[g]?) : RowN w' base v l := by
  obtain ⟨h0, h⟩ := h
  refine ⟨h0, ?_⟩
  rcases h with h | ⟨g, cap, cur, rfl, h1, h2, h3⟩
  · exact .inl h
  · exact .inr ⟨g, cap, cur, rfl, h1, (hb g h1 (Array.getElem?_eq_some_iff.1 h2).1 rfl).trans h2, h3⟩
theorem RowN.other {w : World} {base g q : Nat} {v : Value} {l : List Int} (h : RowN w base v l) (hne : v.ownBlock ≠ some g) (y : Value) : RowN (w.setCell ⟨g, q, none⟩ y) base v l :=
  h.keep fun g' _ _ e => by simp [World.setCell, Array.getElem?_modify, show g ≠ g' from fun h => hne (by rw [e, h])]
theorem RowN.iterAt {w : World} {base k : Nat} {v : Value} {l : List Int} {s : ByteArray} {i j : Nat} (h : RowN w base v l) (hk : w.heap[k]? = some (.stringIter s i)) : RowN (w.iterAt k s j) base v l := by
  obtain ⟨h0, h⟩ := h
  refine ⟨h0, ?_⟩
  rcases h with h | ⟨g, cap, cur, rfl, h1, h2, h3⟩
  · exact .inl h
  · exact .inr ⟨g, cap, cur, rfl, h1, (Lib.iterAt_other _ _ _ _ _ (by intro e; rw [e, hk] at h2; simp at h2)).trans h2, h3⟩

end Go.Proofs.Ytkpnfonedfomaaa
