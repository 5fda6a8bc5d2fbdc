/- A polygon's diagonals as a row of chords, sorted. -/
import Derived.Test.YtkpnfonedfomaaaPg7
import Derived.Shelf.GgSortFunc.InsertionK
namespace Go.Proofs.Ytkpnfonedfomaaa
open Go.ChangeShapes Go.WideShapes Go.ChangeAt Go.RowKit Go.Sort Go.Shelf
set_option linter.unusedVariables false

/-- A chord's two cells. -/
def enC (x : Ch) : List Value := [.int .i64 x.1, .int .i64 x.2]
theorem flat_enC (cs : List Ch) {t : Nat} (h : t < 2 * cs.length) : (flatK enC 2 cs.toArray)[t]! = .int .i64 (flF cs t) := by
  rw [get_flatK enC 2 cs.toArray t (by simp; omega)]
  have hg : cs.toArray[t / 2]! = cs.getD (t / 2) (0, 0) := by
    rw [getElem!_pos cs.toArray (t / 2) (by simp; omega), List.getElem_toArray, List.getD_eq_getElem?_getD, List.getElem?_eq_getElem (by omega)]; rfl
  rw [hg]
  unfold flF enC
  by_cases e : t % 2 = 0
  · rw [if_pos e, e]; rfl
  · have e1 : t % 2 = 1 := by omega
    rw [if_neg e, e1]; rfl
theorem Pg.holds {W : World} {b : Nat} {n : Int} {cs : List Ch} (h : Pg W b n cs.length (flF cs)) (hl : cs.length ≤ 7) : HoldsK enC 2 W b 2 cs.toArray := by
  intro t ht
  have ht2 : t < 2 * cs.length := by simp at ht; omega
  refine ⟨?_, h.fz _ (by omega)⟩
  rw [flat_enC cs ht2]
  exact h.cs t (by omega)
/-- The diagonals replaced by as many others; blocks and draws behind. -/
theorem Pg.sorted {W : World} {b q : Nat} {n : Int} {cs ds : List Ch} {os : Array Obj} (h : Pg W b n cs.length (flF cs)) (hl : cs.length ≤ 7) (hd : ds.length = cs.length) :
    Pg (sortWorldK enC 2 W b 2 q ds.toArray os) b n ds.length (flF ds) := by
  have hb := h.lt
  have hH := h.holds hl
  unfold sortWorldK
  have hlt : b < (putRowK enC 2 (Sort.ahead W q) b 2 ds.toArray).heap.size := by
    show b < (putRow id (Sort.ahead W q) b 2 (flatK enC 2 ds.toArray)).heap.size
    rw [size_putRow]; exact hb
  have ho : ∀ j, j < 2 ∨ 2 + 2 * cs.length ≤ j → (putRowK enC 2 (Sort.ahead W q) b 2 ds.toArray).cell? ⟨b, j, none⟩ = W.cell? ⟨b, j, none⟩ := fun j hj => by
    show (putRow id (Sort.ahead W q) b 2 (flatK enC 2 ds.toArray)).cell? ⟨b, j, none⟩ = _
    rw [cell?_putRow_other id (Sort.ahead W q) b 2 (flatK enC 2 ds.toArray) ⟨b, j, none⟩ (by rw [size_flatK]; simp only [List.size_toArray]; rcases hj with hj | hj; exact .inr (.inl hj); exact .inr (.inr (by show 2 + ds.length * 2 ≤ j; omega)))]
    exact cell?_ahead W q _
  have hK := holdsK_putRowK enC 2 (Sort.ahead W q) b 2 cs.toArray ds.toArray (holdsK_ahead enC 2 W q b 2 cs.toArray hH) (by simp [hd])
  refine ⟨by rw [size_grow]; omega, ?_, ?_, fun j hj => ?_, fun j hj => ?_⟩
  · rw [cell?_grow _ os ⟨b, 0, none⟩ hlt, ho 0 (.inl (by omega))]; exact h.c0
  · rw [cell?_grow _ os ⟨b, 1, none⟩ hlt, ho 1 (.inl (by omega)), hd]; exact h.c1
  · rw [cell?_grow _ os ⟨b, 2 + j, none⟩ hlt]
    by_cases e : j < 2 * cs.length
    · rw [(hK j (by simp; omega)).1, flat_enC ds (by omega)]; rfl
    · rw [ho (2 + j) (.inr (by omega)), h.cs j hj]
      have hz : ∀ l : List Ch, l.length = cs.length → flF l j = 0 := fun l hl2 => by
        unfold flF
        rw [show l.getD (j / 2) (0, 0) = (0, 0) by rw [List.getD_eq_getElem?_getD, List.getElem?_eq_none (by omega)]; rfl]
        split <;> rfl
      rw [hz cs rfl, hz ds hd]
  · rw [frozen?_grow _ os ⟨b, j, none⟩ hlt]
    show (putRow id (Sort.ahead W q) b 2 (flatK enC 2 ds.toArray)).frozen? ⟨b, j, none⟩ = false
    rw [frozen?_putRow]
    exact h.fz j hj
/-- All that lay ahead of the polygon's block is as it was. -/
theorem sorted_below {W : World} {b q B : Nat} {ds : List Ch} {os : Array Obj} (hb : b < W.heap.size) (hB : B ≤ b) : Below B W (sortWorldK enC 2 W b 2 q ds.toArray os) := by
  refine ⟨rfl, rfl, rfl, ?_, fun k hk => ?_⟩
  · unfold sortWorldK
    rw [size_grow]
    show W.heap.size ≤ (putRow id (Sort.ahead W q) b 2 (flatK enC 2 ds.toArray)).heap.size + _
    rw [size_putRow]; exact Nat.le_add_right _ _
  · unfold sortWorldK
    have hs : (putRowK enC 2 (Sort.ahead W q) b 2 ds.toArray).heap.size = W.heap.size := by
      show (putRow id (Sort.ahead W q) b 2 (flatK enC 2 ds.toArray)).heap.size = _
      rw [size_putRow]; rfl
    rw [heap_grow_old _ _ (by omega)]
    show (putRow id (Sort.ahead W q) b 2 (flatK enC 2 ds.toArray)).heap[k]? = W.heap[k]?
    unfold putRow mapBlock
    simp only [heap_ahead]
    rw [Array.getElem?_modify, if_neg (by omega)]
theorem sorted_onl {W : World} {b q : Nat} {ds : List Ch} {os : Array Obj} (hb : b < W.heap.size) : Onl b W (sortWorldK enC 2 W b 2 q ds.toArray os) := by
  refine ⟨fun B hB => sorted_below hb hB, fun k hk hg => ?_⟩
  unfold sortWorldK
  have hs : (putRowK enC 2 (Sort.ahead W q) b 2 ds.toArray).heap.size = W.heap.size := by
    show (putRow id (Sort.ahead W q) b 2 (flatK enC 2 ds.toArray)).heap.size = _
    rw [size_putRow]; rfl
  rw [heap_grow_old _ _ (by omega)]
  show (putRow id (Sort.ahead W q) b 2 (flatK enC 2 ds.toArray)).heap[k]? = W.heap[k]?
  unfold putRow mapBlock
  simp only [heap_ahead]
  rw [Array.getElem?_modify, if_neg (Ne.symm hg)]

end Go.Proofs.Ytkpnfonedfomaaa
