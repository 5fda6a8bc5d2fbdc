/- DividePolynomials, the model: a dividend with terms (written by tools/mk14e.py). -/
import Derived.Test.YtpelicepgeoopaaSpec14D
namespace Go.Proofs.Ytpelicepgeoopaa
open Go.ChangeShapes Go.WideShapes Go.ChangeAt Go.RowKit
set_option linter.unusedVariables false

theorem mapR_len (n : Nat) (f : Nat → Int) : ((List.range n).map f).length = n := by simp
theorem mapR_at {n q : Nat} (f : Nat → Int) (h : q < n) : ((List.range n).map f).getD q 0 = f q := by simp [List.getD, h]
theorem map_ext {a b : List Int} (h : a.length = b.length) (hg : ∀ q, q < a.length → a.getD q 0 = b.getD q 0) : a = b := by
  apply List.ext_getElem h
  intro q h1 h2
  have := hg q h1
  simpa [List.getD, h1, h2] using this
theorem mapR_zero (a b : List Int) : (List.range a.length).map (dvR a b 0) = a := map_ext (by rw [mapR_len]) fun q hq => by rw [mapR_len] at hq; rw [mapR_at _ hq]; rfl
theorem OwnI.upd {w : World} {lo hi g c n t : Nat} {f : Nat → Int} {y : Int} (h : OwnI w lo hi (.slice (some ⟨g, 0, none⟩) n c) ((List.range n).map f)) (ht : t < n) : OwnI (w.setCell ⟨g, t, none⟩ (.int .i64 y)) lo hi (.slice (some ⟨g, 0, none⟩) n c) ((List.range n).map (upd f t y)) :=
  h.set (j := t) (by rw [mapR_len]; exact ht) (by rw [mapR_len, mapR_len]) (by rw [mapR_at _ ht, upd_at]) (fun i hi hne => by rw [mapR_len] at hi; rw [mapR_at _ hi, mapR_at _ hi, upd_ne _ _ hne])
theorem OwnI.farHi {w : World} {lo hi g q : Nat} {v u : Value} {xs : List Int} (h : OwnI w lo hi v xs) (hg : hi ≤ g) : OwnI (w.setCell ⟨g, q, none⟩ u) lo hi v xs := by
  obtain ⟨A, cap, e, h⟩ := h
  refine ⟨A, cap, e, ?_⟩
  rcases h with h | ⟨b, C, a1, a2, a3, a4, a5⟩
  · exact .inl h
  · exact .inr ⟨b, C, a1, a2, a3, (Below.heap_setCell _ _ _ b (by show b ≠ g; omega)).trans a4, a5⟩
theorem dv_no3 {a b : List Int} {k : Nat} (hk : k < dQ a b) (h : ¬ (-1000000000 ≤ dvT a b k ∧ dvT a b k ≤ 1000000000)) : dvOk a b = false := decide_eq_false fun g => h (g.2.2.1 k hk)
theorem dv_no4 {a b : List Int} (h : plyB (trL (reL a b)) = false) : dvOk a b = false := decide_eq_false fun g => by rw [g.2.2.2] at h; cases h
theorem ret_q {A A' B B' : Value} {x y : Bool} (h1 : A = A') (h2 : B = B') (h : x = y) : Ending.returned (.tuple #[A, B, .bool x]) = .returned (.tuple #[A', B', .bool y]) := by rw [h1, h2, h]
theorem two_below {w w1 : World} (h : Below w.heap.size w w1) (o o' : Obj) : Below w.heap.size w ((w1.alloc o).alloc o') := (h.alloc h.size o).alloc (by have := h.size; simp; omega) o'

end Go.Proofs.Ytpelicepgeoopaa
