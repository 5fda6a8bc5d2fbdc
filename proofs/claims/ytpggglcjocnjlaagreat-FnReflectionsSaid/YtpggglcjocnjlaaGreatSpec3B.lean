/- The contract of the model's l3Ways. -/
import Derived.Test.YtpggglcjocnjlaaGreatSpec3A
namespace Go.Proofs.YtpggglcjocnjlaaGreat
open Go.ChangeShapes Go.WideShapes Go.ChangeAt Go.RowKit
set_option linter.unusedVariables false

theorem RowI.grown {w w' : World} {g d : Nat} {f : Nat → Int} {row : Option Nat} (h : RowI w g d f) (hg : w.grownBy w' row) (hne : row ≠ some g) : RowI w' g d f :=
  h.keep (hg.block g h.lt (fun e => hne e.symm))
theorem RowI.alloc {w : World} {g d : Nat} {f : Nat → Int} (h : RowI w g d f) (o : Obj) : RowI (w.alloc o) g d f :=
  h.keep (by
    have := h.lt
    rw [show (w.alloc o).heap = w.heap.push o from rfl, Array.getElem?_push, if_neg (by omega)])
theorem OutR.grown {w w' : World} {base d : Nat} {v : Value} {gs : List Nat} (h : OutR w base d v gs) (hg : w.grownBy w' none) : OutR w' base d v gs :=
  h.keep fun o ho => by
    obtain ⟨cur, h1⟩ := h.own ho
    exact hg.block o (Array.getElem?_eq_some_iff.1 h1).1 (fun e => by cases e)
theorem OutR.alloc {w : World} {base d : Nat} {v : Value} {gs : List Nat} (h : OutR w base d v gs) (o : Obj) : OutR (w.alloc o) base d v gs := World.ownsRow.alloc h o
/-- The row i when the places from i up to k have been filled. -/
def fl (i k : Nat) : Nat → Int := fun q => if i ≤ q ∧ q < k then wy i q else 0
theorem fl_in (i k q : Nat) (h1 : i ≤ q) (h2 : q < k) : fl i k q = wy i q := if_pos ⟨h1, h2⟩
theorem fl_out (i k q : Nat) (h : ¬ (i ≤ q ∧ q < k)) : fl i k q = 0 := if_neg h
theorem fl_next (i k q : Nat) (h : q ≠ k) : fl i (k + 1) q = fl i k q := by
  by_cases e : i ≤ q ∧ q < k
  · rw [fl_in _ _ _ e.1 e.2, fl_in _ _ _ e.1 (by omega)]
  · rw [fl_out _ _ _ e, fl_out _ _ _ (by omega)]
theorem fl_all (i d q : Nat) (h : q ≤ d) : wy i q = fl i (d + 1) q := by
  by_cases e : i ≤ q
  · rw [fl_in _ _ _ e (by omega)]
  · rw [fl_out _ _ _ (by omega), wy_low _ _ (by omega)]
theorem snoc_old (gs : List Nat) (g j : Nat) (h : j < gs.length) : (gs ++ [g]).getD j 0 = gs.getD j 0 := by
  simp [List.getD, List.getElem?_append_left h]
theorem snoc_new (gs : List Nat) (g : Nat) : (gs ++ [g]).getD gs.length 0 = g := by simp [List.getD]

end Go.Proofs.YtpggglcjocnjlaaGreat
