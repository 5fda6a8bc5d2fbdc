/- markIntS with its frame: only blocks from lo up to hi have changed. -/
import Derived.Test.YtlggbnnncnfimaaInts
namespace Go.Proofs.Ytlggbnnncnfimaa
open Go.ChangeShapes Go.WideShapes Go.ChangeAt Go.RowKit
set_option linter.unusedVariables false

structure Apart (lo hi : Nat) (w w' : World) : Prop where
  os : w'.os = w.os
  tape : w'.tape = w.tape
  output : w'.output = w.output
  size : w.heap.size ≤ w'.heap.size
  block : ∀ k, k < lo ∨ hi ≤ k → w'.heap[k]? = w.heap[k]?
theorem Apart.refl (lo hi : Nat) (w : World) : Apart lo hi w w := ⟨rfl, rfl, rfl, Nat.le_refl _, fun _ _ => rfl⟩
theorem Apart.setCell {lo hi : Nat} {a w : World} (h : Apart lo hi a w) {g k : Nat} (h1 : lo ≤ g) (h2 : g < hi) (y : Value) : Apart lo hi a (w.setCell ⟨g, k, none⟩ y) :=
  ⟨h.os, h.tape, h.output, by simpa [World.setCell] using h.size, fun q hq => (Below.heap_setCell w ⟨g, k, none⟩ y q (show q ≠ g by omega)).trans (h.block q hq)⟩
theorem Apart.below {lo hi B : Nat} {w w' : World} (h : Apart lo hi w w') (hB : B ≤ lo) : Below B w w' := ⟨h.os, h.tape, h.output, h.size, fun k hk => h.block k (.inl (by omega))⟩
theorem OwnI.apart {w w' : World} {lo hi lo' hi' : Nat} {v : Value} {xs : List Int} (h : OwnI w lo' hi' v xs) (ha : Apart lo hi w w') (hd : hi' ≤ lo ∨ hi ≤ lo') : OwnI w' lo' hi' v xs := by
  obtain ⟨A, cap, e, h⟩ := h
  refine ⟨A, cap, e, ?_⟩
  rcases h with h | ⟨g, C, h1, h2, h3, h4, h5⟩
  · exact .inl h
  · exact .inr ⟨g, C, h1, h2, h3, (ha.block g (by omega)).trans h4, h5⟩

end Go.Proofs.Ytlggbnnncnfimaa
