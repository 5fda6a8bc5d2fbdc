/- The contracts of the drawing functions for words: any word of at most 18 letters. -/
import Derived.Test.YtpggglcjocnjlaaGreatDrawS
import Derived.Test.YtpggglcjocnjlaaGreatSpec2B
namespace Go.Proofs.YtpggglcjocnjlaaGreat
open Go.ChangeShapes Go.WideShapes Go.ChangeAt Go.RowKit
set_option linter.unusedVariables false

def words6 : List ByteArray := [⟨#[]⟩, ⟨#[100, 117]⟩, ⟨#[117]⟩, ⟨#[120]⟩, ⟨#[117, 117, 117, 117, 117, 117, 117, 117, 117, 100, 100, 100, 100, 100, 100, 100, 100, 100]⟩, ⟨#[117, 117, 117, 117, 117, 117, 117, 117, 100, 100, 100, 100, 100, 100, 100, 100]⟩]
/-- The two words of the list that are longer. -/
def word9 : ByteArray := ⟨#[117, 117, 117, 117, 117, 117, 117, 117, 117, 100, 100, 100, 100, 100, 100, 100, 100, 100]⟩
def word8 : ByteArray := ⟨#[117, 117, 117, 117, 117, 117, 117, 117, 100, 100, 100, 100, 100, 100, 100, 100]⟩
/-- What is drawn: a word of at most 13 letters, or one of the two. -/
def Word (s : ByteArray) : Prop := s.size ≤ 13 ∨ s = word9 ∨ s = word8
theorem Word.size {s : ByteArray} (h : Word s) : s.size ≤ 18 := by
  rcases h with h | rfl | rfl
  · omega
  · decide
  · decide
theorem words6_in : ∀ z ∈ words6, Word z := by
  intro z hz
  simp only [words6, List.mem_cons, List.not_mem_nil, or_false] at hz
  rcases hz with rfl | rfl | rfl | rfl | rfl | rfl
  · exact .inl (by decide)
  · exact .inl (by decide)
  · exact .inl (by decide)
  · exact .inl (by decide)
  · exact .inr (.inl rfl)
  · exact .inr (.inr rfl)

theorem below_alloc' (w : World) (o : Obj) : Below w.heap.size w (w.alloc o) := (Below.refl _ w).alloc (Nat.le_refl _) o
def DrawsW (w : World) (e : Ending) (w' : World) : Prop := ∃ s : ByteArray, Word s ∧ e = .returned (.string s) ∧ Below w.heap.size w w'
def DrawsWW (w : World) (e : Ending) (w' : World) : Prop := ∃ s t : ByteArray, Word s ∧ Word t ∧ e = .returned (.tuple #[.string s, .string t]) ∧ Below w.heap.size w w'
def DrawsI (m : Nat) (w : World) (e : Ending) (w' : World) : Prop := ∃ (v : Value) (xs : List Int), xs.length ≤ m ∧ e = .returned v ∧ OwnI w' w.heap.size w'.heap.size v xs ∧ Below w.heap.size w w'
theorem OwnI.grown {w w' : World} {lo hi B : Nat} {v : Value} {xs : List Int} (h : OwnI w lo hi v xs) (hg : w.grownBy w' (some B)) (hB : B < lo) (hh : hi ≤ w.heap.size) : OwnI w' lo hi v xs := by
  obtain ⟨A, cap, e, h⟩ := h
  refine ⟨A, cap, e, ?_⟩
  rcases h with h | ⟨g, C, h1, h2, h3, h4, h5⟩
  · exact .inl h
  · exact .inr ⟨g, C, h1, h2, h3, (hg.block g (by omega) (by simp; omega)).trans h4, h5⟩

end Go.Proofs.YtpggglcjocnjlaaGreat
