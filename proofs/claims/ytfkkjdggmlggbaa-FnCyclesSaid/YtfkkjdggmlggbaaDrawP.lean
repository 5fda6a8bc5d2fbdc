/- The contracts of the drawing functions for words: any word of at most 18 letters. -/
import Derived.Test.YtfkkjdggmlggbaaDrawS
import Derived.Test.YtfkkjdggmlggbaaSpec2B
namespace Go.Proofs.Ytfkkjdggmlggbaa
open Go.ChangeShapes Go.WideShapes Go.ChangeAt Go.RowKit
set_option linter.unusedVariables false

def words6 : List ByteArray := [⟨#[]⟩, ⟨#[100, 117]⟩, ⟨#[117]⟩, ⟨#[120]⟩, ⟨#[117, 117, 117, 117, 117, 117, 117, 117, 117, 100, 100, 100, 100, 100, 100, 100, 100, 100]⟩, ⟨#[117, 117, 117, 117, 117, 117, 117, 117, 100, 100, 100, 100, 100, 100, 100, 100]⟩]
/-- The two words of the list that are longer. -/
def word9 : ByteArray := ⟨#[117, 117, 117, 117, 117, 117, 117, 117, 117, 100, 100, 100, 100, 100, 100, 100, 100, 100]⟩
def word8 : ByteArray := ⟨#[117, 117, 117, 117, 117, 117, 117, 117, 100, 100, 100, 100, 100, 100, 100, 100]⟩
/-- What is drawn: a word of at most 13 letters, or one of the two. -/
def Word (s : ByteArray) : Prop := s.size ≤ 13 ∨ s = word9 ∨ s = word8
theorem Word.size {s : ByteArray} (h : Word s) : s.size ≤ 18 := by
  rcases h with h | rfl | rfl
  · omega
  · decide
  · decide
theorem words6_in : ∀ z ∈ words6, Word z := by
  intro z hz
  simp only [words6, List.mem_cons, List.not_mem_nil, or_false] at hz
  rcases hz with rfl | rfl | rfl | rfl | rfl | rfl
  · exact .inl (by decide)
  · exact .inl (by decide)
  · exact .inl (by decide)
  · exact .inl (by decide)
  · exact .inr (.inl rfl)
  · exact .inr (.inr rfl)

set_option maxRecDepth 100000 in
set_option maxHeartbeats 3200000 in
theorem any_any (B K : Nat) (A : Option Addr) (n cap : Nat) (w : World) (hc : Code w K A n) (hK : K ≤ B) (hcur : Cur w B A n cap) :
    Calls Try.prog 30 #[.pointer (some ⟨B, 0, none⟩)] w (DrewS Word B A n cap w) := by
  have HC := Lib.hid hc
  have HU := Lib.hid hcur
  have hBlt := hcur.lt
  clear hc hcur
  go_enter Try.func30, Try.ntmps30
  go_wp2_with fail
  (with_reducible refine (path_any B K A n cap _ HC.out hK HU.out).mono ?_)
  rintro e w1 ⟨t, ht, rfl, hcur, hg⟩
  have HU1 := Lib.hid hcur
  have HG1 := Lib.hid hg
  have HC1 := Lib.hid (HC.out.keep (fun b hb => hg.block b (by omega) (by simp; omega)))
  have z1 := hg.size
  clear hcur hg
  go_wp2_with fail
  (with_reducible refine (below_any B K A n cap 12 _ HC1.out hK HU1.out (by omega) (by omega)).mono ?_)
  rintro e w2 ⟨r, hr, rfl, hcur, hg⟩
  have HU2 := Lib.hid hcur
  have HG2 := Lib.hid (grown_trans HG1.out hg)
  have HC2 := Lib.hid (HC1.out.keep (fun b hb => hg.block b (by omega) (by simp; omega)))
  have z2 := hg.size
  clear hcur hg
  obtain ⟨r0, r12⟩ := hr
  by_cases e0 : r = 0
  · subst e0
    go_wp2_with fail
    (with_reducible refine (spoil_any B K A n cap t _ HC2.out hK HU2.out (by omega)).mono ?_)
    rintro e w3 ⟨t2, ht2, rfl, hcur, hg⟩
    have HU3 := Lib.hid hcur
    have HG3 := Lib.hid (grown_trans HG2.out hg)
    clear hcur hg
    go_wp2
    go_ret
    exact ⟨t2, .inl (by omega), rfl, HU3.out, HG3.out⟩
  · have b0 : (r == 0) = false := by simp [e0]
    by_cases e1 : r = 1
    · subst e1
      go_wp2_with fail
      (with_reducible refine (pickS_any Word 6 B K w2.heap.size A n cap _ (HC2.out.keep (fun b hb => Below.heap_alloc w2 _ b (by omega))) hK (HU2.out.keep (Below.heap_alloc w2 _ B (by omega))) (by omega) (by simp) (by omega) (by omega) ?hl).mono ?_)
      case hl => exact strs_cells Word w2 words6 words6_in
      rintro e w3 ⟨t2, ht2, rfl, hcur, hg⟩
      have HU3 := Lib.hid hcur
      have HG3 := Lib.hid (grown_trans (grown_alloc HG2.out _) hg)
      clear hcur hg
      go_wp2
      go_ret
      exact ⟨t2, ht2, rfl, HU3.out, HG3.out⟩
    · have b1 : (r == 1) = false := by simp [e1]
      go_wp2
      go_ret
      exact ⟨t, .inl (by omega), rfl, HU2.out, HG2.out⟩

theorem below_alloc' (w : World) (o : Obj) : Below w.heap.size w (w.alloc o) := (Below.refl _ w).alloc (Nat.le_refl _) o
def DrawsW (w : World) (e : Ending) (w' : World) : Prop := ∃ s : ByteArray, Word s ∧ e = .returned (.string s) ∧ Below w.heap.size w w'
def DrawsWW (w : World) (e : Ending) (w' : World) : Prop := ∃ s t : ByteArray, Word s ∧ Word t ∧ e = .returned (.tuple #[.string s, .string t]) ∧ Below w.heap.size w w'
def DrawsI (m : Nat) (w : World) (e : Ending) (w' : World) : Prop := ∃ (v : Value) (xs : List Int), xs.length ≤ m ∧ e = .returned v ∧ OwnI w' w.heap.size w'.heap.size v xs ∧ Below w.heap.size w w'
theorem OwnI.grown {w w' : World} {lo hi B : Nat} {v : Value} {xs : List Int} (h : OwnI w lo hi v xs) (hg : w.grownBy w' (some B)) (hB : B < lo) (hh : hi ≤ w.heap.size) : OwnI w' lo hi v xs := by
  obtain ⟨A, cap, e, h⟩ := h
  refine ⟨A, cap, e, ?_⟩
  rcases h with h | ⟨g, C, h1, h2, h3, h4, h5⟩
  · exact .inl h
  · exact .inr ⟨g, C, h1, h2, h3, (hg.block g (by omega) (by simp; omega)).trans h4, h5⟩

end Go.Proofs.Ytfkkjdggmlggbaa
