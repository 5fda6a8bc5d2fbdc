/- The numbers of words with levels stay small. -/
import Derived.Test.YtedniiomkejmoaaCnt25
namespace Go.Proofs.Ytedniiomkejmoaa
open Go.ChangeShapes Go.WideShapes Go.ChangeAt Go.RowKit
set_option linter.unusedVariables false

theorem wl_len (W : Int) : (wl W).length = 3 := rfl
def smlB (W : Int) : Bool := (List.range 25).all fun L => (List.range (L + 1)).all fun h => decide (0 ≤ cv (wl W) L h) && decide (cv (wl W) L h ≤ 1000000000000)
theorem sml_of (W : Int) (h1 : 1 ≤ W) (h2 : W ≤ 2) (hb : ((ctT (wl W) 24).all fun row => row.all fun x => decide (0 ≤ x) && decide (x ≤ 1000000000000)) = true) : Sml (wl W) := by
  constructor
  · intro L hL h hh
    rw [← ctT_at (wl W) (L := 24) hL h]
    rw [List.all_eq_true] at hb
    have hl : L < (ctT (wl W) 24).length := by rw [ctT_len]; omega
    have h3 := hb _ (List.getElem_mem hl)
    rw [List.all_eq_true] at h3
    have e : (ctT (wl W) 24).getD L [] = (ctT (wl W) 24)[L] := by rw [List.getD_eq_getElem?_getD, List.getElem?_eq_getElem hl]; rfl
    rw [e]
    rcases Nat.lt_or_ge h (ctT (wl W) 24)[L].length with h4 | h4
    · have h5 := h3 _ (List.getElem_mem h4)
      rw [List.getD_eq_getElem?_getD, List.getElem?_eq_getElem h4]
      simpa using h5
    · rw [List.getD_eq_getElem?_getD, List.getElem?_eq_none h4]; exact ⟨by decide, by decide⟩
  · intro i hi
    match i, hi with
    | 0, _ => exact ⟨(by decide : (0 : Int) ≤ 1 - 1), (by decide : (1 : Int) ≤ 2), (by decide : (-1 : Int) ≤ 1), (by decide : (1 : Int) ≤ 3)⟩
    | 1, _ => exact ⟨by show 0 ≤ W - 1; omega, by show W ≤ 2; omega, (by decide : (-1 : Int) ≤ 0), (by decide : (0 : Int) ≤ 3)⟩
    | 2, _ => exact ⟨(by decide : (0 : Int) ≤ 1 - 1), (by decide : (1 : Int) ≤ 2), (by decide : (-1 : Int) ≤ -1), (by decide : (-1 : Int) ≤ 3)⟩

end Go.Proofs.Ytedniiomkejmoaa
