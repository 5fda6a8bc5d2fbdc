/- The contracts of the drawing functions for words: any word of at most 18 letters. -/
import Derived.Test.YtckpojjjodgonaaDrawS
import Derived.Test.YtckpojjjodgonaaSpec2B
namespace Go.Proofs.Ytckpojjjodgonaa
open Go.ChangeShapes Go.WideShapes Go.ChangeAt Go.RowKit
set_option linter.unusedVariables false

def words6 : List ByteArray := [⟨#[]⟩, ⟨#[100, 117]⟩, ⟨#[117]⟩, ⟨#[120]⟩, ⟨#[117, 117, 117, 117, 117, 117, 117, 117, 117, 100, 100, 100, 100, 100, 100, 100, 100, 100]⟩, ⟨#[117, 117, 117, 117, 117, 117, 117, 117, 100, 100, 100, 100, 100, 100, 100, 100]⟩]
/-- The two words of the list that are longer. -/
def word9 : ByteArray := ⟨#[117, 117, 117, 117, 117, 117, 117, 117, 117, 100, 100, 100, 100, 100, 100, 100, 100, 100]⟩
def word8 : ByteArray := ⟨#[117, 117, 117, 117, 117, 117, 117, 117, 100, 100, 100, 100, 100, 100, 100, 100]⟩
/-- What is drawn: a word of at most 13 letters, or one of the two. -/
def Word (s : ByteArray) : Prop := s.size ≤ 13 ∨ s = word9 ∨ s = word8
theorem Word.size {s : ByteArray} (h : Word s) : s.size ≤ 18 := by
  rcases h with h | rfl | rfl
  · omega
  · decide
  · decide
theorem words6_in : ∀ z ∈ words6, Word z := by
  intro z hz
  simp only [words6, List.mem_cons, List.not_mem_nil, or_false] at hz
  rcases hz with rfl | rfl | rfl | rfl | rfl | rfl
  · exact .inl (by decide)
  · exact .inl (by decide)
  · exact .inl (by decide)
  · exact .inl (by decide)
  · exact .inr (.inl rfl)
  · exact .inr (.inr rfl)

set_option maxRecDepth 100000 in
set_option maxHeartbeats 3200000 in
theorem any_any (B K : Nat) (A : Option Addr) (n cap : Nat) (w : World) (hc : Code w K A n) (hK : K ≤ B) (hcur : Cur w B A n cap) :
    Calls Try.prog 50 #[.pointer (some ⟨B, 0, none⟩)] w (DrewS Word B A n cap w) := by
  have HC := Lib.hid hc
  have HU := Lib.hid hcur
  have hBlt := hcur.lt
  clear hc hcur
  go_enter Try.func50, Try.ntmps50
  go_wp2_with fail
  (with_reducible refine (path_any B K A n cap _ HC.out hK HU.out).mono ?_)
  rintro e w1 ⟨t, ht, rfl, hcur, hg⟩
  have HU1 := Lib.hid hcur
  have HG1 := Lib.hid hg
  have HC1 := Lib.hid (HC.out.keep (fun b hb => hg.block b (by omega) (by simp; omega)))
  have z1 := hg.size
  clear hcur hg
  go_wp2_with fail
  (with_reducible refine (below_any B K A n cap 12 _ HC1.out hK HU1.out (by omega) (by omega)).mono ?_)
  rintro e w2 ⟨r, hr, rfl, hcur, hg⟩
  have HU2 := Lib.hid hcur
  have HG2 := Lib.hid (grown_trans HG1.out hg)
  have HC2 := Lib.hid (HC1.out.keep (fun b hb => hg.block b (by omega) (by simp; omega)))
  have z2 := hg.size
  clear hcur hg
  obtain ⟨r0, r12⟩ := hr
  by_cases e0 : r = 0
  · subst e0
    go_wp2_with fail
    (with_reducible refine (spoil_any B K A n cap t _ HC2.out hK HU2.out (by omega)).mono ?_)
    rintro e w3 ⟨t2, ht2, rfl, hcur, hg⟩
    have HU3 := Lib.hid hcur
    have HG3 := Lib.hid (grown_trans HG2.out hg)
    clear hcur hg
    go_wp2
    go_ret
    exact ⟨t2, .inl (by omega), rfl, HU3.out, HG3.out⟩
  · have b0 : (r == 0) = false := by simp [e0]
    by_cases e1 : r = 1
    · subst e1
      go_wp2_with fail
      (with_reducible refine (pickS_any Word 6 B K w2.heap.size A n cap _ (HC2.out.keep (fun b hb => Below.heap_alloc w2 _ b (by omega))) hK (HU2.out.keep (Below.heap_alloc w2 _ B (by omega))) (by omega) (by simp) (by omega) (by omega) ?hl).mono ?_)
      case hl => exact strs_cells Word w2 words6 words6_in
      rintro e w3 ⟨t2, ht2, rfl, hcur, hg⟩
      have HU3 := Lib.hid hcur
      have HG3 := Lib.hid (grown_trans (grown_alloc HG2.out _) hg)
      clear hcur hg
      go_wp2
      go_ret
      exact ⟨t2, ht2, rfl, HU3.out, HG3.out⟩
    · have b1 : (r == 1) = false := by simp [e1]
      go_wp2
      go_ret
      exact ⟨t, .inl (by omega), rfl, HU2.out, HG2.out⟩

theorem below_alloc' (w : World) (o : Obj) : Below w.heap.size w (w.alloc o) := (Below.refl _ w).alloc (Nat.le_refl _) o
def DrawsW (w : World) (e : Ending) (w' : World) : Prop := ∃ s : ByteArray, Word s ∧ e = .returned (.string s) ∧ Below w.heap.size w w'
def DrawsWW (w : World) (e : Ending) (w' : World) : Prop := ∃ s t : ByteArray, Word s ∧ Word t ∧ e = .returned (.tuple #[.string s, .string t]) ∧ Below w.heap.size w w'
def DrawsI (m : Nat) (w : World) (e : Ending) (w' : World) : Prop := ∃ (v : Value) (xs : List Int), xs.length ≤ m ∧ e = .returned v ∧ OwnI w' w.heap.size w'.heap.size v xs ∧ Below w.heap.size w w'
theorem OwnI.grown {w w' : World} {lo hi B : Nat} {v : Value} {xs : List Int} (h : OwnI w lo hi v xs) (hg : w.grownBy w' (some B)) (hB : B < lo) (hh : hi ≤ w.heap.size) : OwnI w' lo hi v xs := by
  obtain ⟨A, cap, e, h⟩ := h
  refine ⟨A, cap, e, ?_⟩
  rcases h with h | ⟨g, C, h1, h2, h3, h4, h5⟩
  · exact .inl h
  · exact .inr ⟨g, C, h1, h2, h3, (hg.block g (by omega) (by simp; omega)).trans h4, h5⟩

set_option maxRecDepth 100000 in
set_option maxHeartbeats 1600000 in
theorem drawHeights (A : Option Addr) (n cap : Nat) (w : World) (hc : Code w w.heap.size A n) : Calls Try.prog 16 #[.slice A n cap] w (DrawsW w) := by
  have HC := Lib.hid hc
  clear hc
  go_enter Try.func16, Try.ntmps16
  go_wp2_with fail
  (with_reducible refine (new_any A n cap _ HC.out).mono ?_)
  rintro e w1 ⟨B, hB, rfl, hcur, hb⟩
  have HU := Lib.hid hcur
  have HB := Lib.hid hb
  have HC1 := Lib.hid (HC.out.keep hb.block)
  clear hcur hb
  go_wp2_with fail
  (with_reducible refine (any_any B w.heap.size A n cap _ HC1.out hB HU.out).mono ?_)
  rintro e w2 ⟨s, hs, rfl, hcur, hg⟩
  have HS := Lib.hid hs
  have HG := Lib.hid (below_of_grown HB.out hg hB)
  clear hs hcur hg
  go_wp2
  go_ret
  exact ⟨s, HS.out, rfl, HG.out⟩

set_option maxRecDepth 100000 in
set_option maxHeartbeats 1600000 in
theorem drawJoin (A : Option Addr) (n cap : Nat) (w : World) (hc : Code w w.heap.size A n) : Calls Try.prog 38 #[.slice A n cap] w (DrawsWW w) := by
  have HC := Lib.hid hc
  clear hc
  go_enter Try.func38, Try.ntmps38
  go_wp2_with fail
  (with_reducible refine (new_any A n cap _ HC.out).mono ?_)
  rintro e w1 ⟨B, hB, rfl, hcur, hb⟩
  have HU := Lib.hid hcur
  have HB := Lib.hid hb
  have HC1 := Lib.hid (HC.out.keep hb.block)
  have hBlt := hcur.lt
  clear hcur hb
  go_wp2_with fail
  (with_reducible refine (any_any B w.heap.size A n cap _ HC1.out hB HU.out).mono ?_)
  rintro e w2 ⟨s, hs, rfl, hcur, hg⟩
  have HS := Lib.hid hs
  have HU2 := Lib.hid hcur
  have HG := Lib.hid (below_of_grown HB.out hg hB)
  have HC2 := Lib.hid (HC1.out.keep (fun b hb => hg.block b (by omega) (by simp; omega)))
  clear hs hcur hg
  go_wp2_with fail
  (with_reducible refine (any_any B w.heap.size A n cap _ HC2.out hB HU2.out).mono ?_)
  rintro e w3 ⟨t, ht, rfl, hcur, hg⟩
  have HT := Lib.hid ht
  have HG3 := Lib.hid (below_of_grown HG.out hg hB)
  clear ht hcur hg
  go_wp2
  go_ret2
  exact ⟨s, t, HS.out, HT.out, rfl, HG3.out⟩

set_option maxRecDepth 100000 in
set_option maxHeartbeats 3200000 in
theorem drawPoh (A : Option Addr) (n cap : Nat) (w : World) (hc : Code w w.heap.size A n) : Calls Try.prog 36 #[.slice A n cap] w (DrawsI 17 w) := by
  have HC := Lib.hid hc
  clear hc
  go_enter Try.func36, Try.ntmps36
  go_wp2_with fail
  (with_reducible refine (new_any A n cap _ HC.out).mono ?_)
  rintro e w1 ⟨B, hB, rfl, hcur, hb⟩
  have HU := Lib.hid hcur
  have HB := Lib.hid hb
  have HC1 := Lib.hid (HC.out.keep hb.block)
  have hBlt := hcur.lt
  clear hcur hb
  go_wp2_with fail
  (with_reducible refine (any_any B w.heap.size A n cap _ HC1.out hB HU.out).mono ?_)
  rintro e w2 ⟨s, hs, rfl, hcur, hg⟩
  have hs := hs.size
  have HU2 := Lib.hid hcur
  have HG2 := Lib.hid (below_of_grown HB.out hg hB)
  have HC2 := Lib.hid (HC1.out.keep (fun b hb => hg.block b (by omega) (by simp; omega)))
  have z2 := hg.size
  clear hcur hg
  go_wp2_with fail
  (with_reducible refine (heightsOf s _ (by omega)).mono ?_)
  rintro e w3 ⟨v, rfl, ho, hb⟩
  obtain ⟨A1, c1, rfl, k1⟩ := id ho
  have hl17 : (heightsP s).length ≤ 17 := by
    by_cases hd : dyck s = true
    · rw [heightsP_yes hd, hsL_len]; have := dyck_size hd; simp; omega
    · rw [heightsP_no (by simpa using hd)]; simp
  have HO := Lib.hid ho
  have HU3 := Lib.hid (HU2.out.keep (hb.block B (by have := HU2.out.lt; omega)))
  have HC3 := Lib.hid (HC2.out.keep (fun b hb2 => hb.block b (by have := HU2.out.lt; omega)))
  have z3 := hb.size
  have HB3 := Lib.hid (HG2.out.trans (hb.mono HG2.out.size))
  have hw2 := HG2.out.size
  clear k1 ho hb
  generalize heightsP s = xs at *
  by_cases h0 : xs.length = 0
  · have hl0 : ¬ (0 : Int) < (xs.length : Int) := by omega
    go_wp2
    go_ret
    exact ⟨_, [], by simp, rfl, ⟨_, _, rfl, .inl rfl⟩, HB3.out⟩
  · have hl0 : (0 : Int) < (xs.length : Int) := by omega
    go_wp2_with fail
    (with_reducible refine (once_any B w.heap.size A n cap 5 _ HC3.out hB HU3.out (by omega) (by omega)).mono ?_)
    rintro e w4 ⟨o, rfl, hcur, hg⟩
    have HU4 := Lib.hid hcur
    have HC4 := Lib.hid (HC3.out.keep (fun b hb => hg.block b (by omega) (by simp; omega)))
    have HO4 := Lib.hid (HO.out.grown hg (by omega) (Nat.le_refl _))
    have z4 := hg.size
    have HB4 := Lib.hid (below_of_grown HB3.out hg hB)
    clear hcur hg
    rcases o with _ | _
    · go_wp2
      go_ret
      exact ⟨_, xs, hl17, rfl, HO4.out.wide hw2 z4, HB4.out⟩
    · go_wp2_with fail
      (with_reducible refine (below_any B w.heap.size A n cap xs.length _ HC4.out hB HU4.out (by omega) (by omega)).mono ?_)
      rintro e w5 ⟨y, hy, rfl, hcur, hg⟩
      have HU5 := Lib.hid hcur
      have HC5 := Lib.hid (HC4.out.keep (fun b hb => hg.block b (by omega) (by simp; omega)))
      have HO5 := Lib.hid (HO4.out.grown hg (by omega) z4)
      have z5 := hg.size
      have HB5 := Lib.hid (below_of_grown HB4.out hg hB)
      clear hcur hg
      obtain ⟨y0, y1⟩ := hy
      obtain ⟨j, rfl⟩ : ∃ j : Nat, y = j := ⟨y.toNat, by omega⟩
      go_wp2_with fail
      (with_reducible refine (pick_any (fun _ => True) 6 B w.heap.size w5.heap.size A n cap _ (HC5.out.keep (fun b hb => Below.heap_alloc w5 _ b (by omega))) hB (HU5.out.keep (Below.heap_alloc w5 _ B (by omega))) (by omega) (by simp) (by omega) (by omega) ?hl).mono ?_)
      case hl => exact ints_cells (fun _ => True) w5 [0, 1, -1, 9, 9223372036854775807, -9223372036854775808] (fun _ _ => trivial)
      rintro e w6 ⟨u, -, rfl, hcur, hg⟩
      have HO6 := Lib.hid ((HO5.out.keep (Below.mono (below_alloc' w5 _) (by omega)) (Nat.le_refl _)).grown hg (by omega) (by simp; omega))
      have z6 := hg.size
      have HB6 := Lib.hid (below_of_grown (HB5.out.alloc HB5.out.size _) hg hB)
      clear hcur hg
      obtain ⟨g1, p1, e1, hg1, hg2, hc1, hf1⟩ := HO6.out.cell (j := j) (by omega)
      simp only [Value.slice.injEq] at e1
      obtain ⟨rfl, -, rfl⟩ := e1
      generalize xs.getD j 0 = y2 at hc1
      go_wp2
      go_ret
      exact ⟨_, xs.set j u, by rw [List.length_set]; exact hl17, rfl, (HO6.out.set (by omega) (by rw [List.length_set]) (by simp [List.getD, show j < xs.length by omega]) (fun i hi hne => by simp [List.getD, Ne.symm hne])).wide hw2 (by simp at z6 ⊢; omega), HB6.out.setCell (p := ⟨g1, j, none⟩) (by simp; omega) _⟩

end Go.Proofs.Ytckpojjjodgonaa
