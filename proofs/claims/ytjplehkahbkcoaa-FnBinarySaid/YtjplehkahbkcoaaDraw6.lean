/- The contracts of the drawing functions for trees. -/
import Derived.Test.YtjplehkahbkcoaaDrawP
import Derived.Test.YtjplehkahbkcoaaDrawD
import Derived.Test.YtjplehkahbkcoaaSpec6E
namespace Go.Proofs.Ytjplehkahbkcoaa
open Go.ChangeShapes Go.WideShapes Go.ChangeAt Go.RowKit
set_option linter.unusedVariables false

/-- A drawn tree is the tree of a path with at most 12 steps, or a text of at most 50 signs. -/
def Tree (s : ByteArray) : Prop := s.size ≤ 50
def words8 : List ByteArray := [⟨#[]⟩, ⟨#[46]⟩, ⟨#[40, 46, 46, 41]⟩, ⟨#[46, 46]⟩, ⟨#[40, 46, 41]⟩, ⟨#[40, 46, 46, 46, 41]⟩, ⟨#[40, 46, 46]⟩, ⟨#[40, 46, 46, 41, 41]⟩]
theorem words8_in : ∀ z ∈ words8, Tree z := by
  intro z hz
  simp only [words8, List.mem_cons, List.not_mem_nil, or_false] at hz
  rcases hz with rfl | rfl | rfl | rfl | rfl | rfl | rfl | rfl <;> (unfold Tree; decide)

set_option maxRecDepth 100000 in
set_option maxHeartbeats 3200000 in
theorem tree_any (B K : Nat) (A : Option Addr) (n cap : Nat) (w : World) (hc : Code w K A n) (hK : K ≤ B) (hcur : Cur w B A n cap) :
    Calls Try.prog 42 #[.pointer (some ⟨B, 0, none⟩)] w (DrewS Tree B A n cap w) := by
  have HC := Lib.hid hc
  have HU := Lib.hid hcur
  have hBlt := hcur.lt
  clear hc hcur
  go_enter Try.func42, Try.ntmps42
  go_wp2_with fail
  (with_reducible refine (path_dyck B K A n cap _ HC.out hK HU.out).mono ?_)
  rintro e w1 ⟨t, ⟨hd, ht⟩, rfl, hcur, hg⟩
  have HU1 := Lib.hid hcur
  have HG1 := Lib.hid hg
  have HC1 := Lib.hid (HC.out.keep (fun b hb => hg.block b (by omega) (by simp; omega)))
  have z1 := hg.size
  have hbs := binF_size t.size t
  have HB := Lib.hid (l6BinaryF t.size t hd (Nat.le_refl _))
  clear hcur hg hd
  generalize binF t.size t = t1 at *
  go_wp2_with fail
  (with_reducible refine (HB.out _).mono ?_)
  rintro e w' ⟨rfl, m, rfl⟩
  go_wp2_with fail
  (with_reducible refine (below_any B K A n cap 12 (w1.drewN m) (HC1.out.keep fun b hb => rfl) hK (HU1.out.keep rfl) (by omega) (by omega)).mono ?_)
  rintro e w2 ⟨r, hr, rfl, hcur, hg⟩
  have HU2 := Lib.hid hcur
  have HG2 := Lib.hid (grown_trans (grown_drewN HG1.out m) hg)
  have HC2 := Lib.hid (HC1.out.keep (fun b hb => hg.block b (by show b < w1.heap.size; omega) (by simp; omega)))
  have z2 : w1.heap.size ≤ w2.heap.size := hg.size
  clear hcur hg
  obtain ⟨r0, r12⟩ := hr
  by_cases e0 : r = 0
  · subst e0
    go_wp2_with fail
    (with_reducible refine (spoil_any B K A n cap t1 _ HC2.out hK HU2.out (by omega)).mono ?_)
    rintro e w3 ⟨t2, ht2, rfl, hcur, hg⟩
    have HU3 := Lib.hid hcur
    have HG3 := Lib.hid (grown_trans HG2.out hg)
    clear hcur hg
    go_wp2
    go_ret
    exact ⟨t2, by unfold Tree; omega, rfl, HU3.out, HG3.out⟩
  · have b0 : (r == 0) = false := by simp [e0]
    by_cases e1 : r = 1
    · subst e1
      go_wp2_with fail
      (with_reducible refine (pickS_any Tree 8 B K w2.heap.size A n cap _ (HC2.out.keep (fun b hb => Below.heap_alloc w2 _ b (by omega))) hK (HU2.out.keep (Below.heap_alloc w2 _ B (by omega))) (by omega) (by simp) (by omega) (by omega) ?hl).mono ?_)
      case hl => exact strs_cells Tree w2 words8 words8_in
      rintro e w3 ⟨t2, ht2, rfl, hcur, hg⟩
      have HU3 := Lib.hid hcur
      have HG3 := Lib.hid (grown_trans (grown_alloc HG2.out _) hg)
      clear hcur hg
      go_wp2
      go_ret
      exact ⟨t2, ht2, rfl, HU3.out, HG3.out⟩
    · have b1 : (r == 1) = false := by simp [e1]
      go_wp2
      go_ret
      exact ⟨t1, by unfold Tree; omega, rfl, HU2.out, HG2.out⟩

def DrawsP6 (P : ByteArray → Prop) (w : World) (e : Ending) (w' : World) : Prop := ∃ s : ByteArray, P s ∧ e = .returned (.string s) ∧ Below w.heap.size w w'

set_option maxRecDepth 100000 in
set_option maxHeartbeats 1600000 in
theorem drawPathOfBinary (A : Option Addr) (n cap : Nat) (w : World) (hc : Code w w.heap.size A n) : Calls Try.prog 14 #[.slice A n cap] w (DrawsP6 Tree w) := by
  have HC := Lib.hid hc
  clear hc
  go_enter Try.func14, Try.ntmps14
  go_wp2_with fail
  (with_reducible refine (new_any A n cap _ HC.out).mono ?_)
  rintro e w1 ⟨B, hB, rfl, hcur, hb⟩
  have HU := Lib.hid hcur
  have HB := Lib.hid hb
  have HC1 := Lib.hid (HC.out.keep hb.block)
  clear hcur hb
  go_wp2_with fail
  (with_reducible refine (tree_any B w.heap.size A n cap _ HC1.out hB HU.out).mono ?_)
  rintro e w2 ⟨s, hs, rfl, hcur, hg⟩
  have HS := Lib.hid hs
  have HG := Lib.hid (below_of_grown HB.out hg hB)
  clear hs hcur hg
  go_wp2
  go_ret
  exact ⟨s, HS.out, rfl, HG.out⟩

set_option maxRecDepth 100000 in
set_option maxHeartbeats 1600000 in
theorem drawPartsOfBinary (A : Option Addr) (n cap : Nat) (w : World) (hc : Code w w.heap.size A n) : Calls Try.prog 28 #[.slice A n cap] w (DrawsP6 Tree w) := by
  have HC := Lib.hid hc
  clear hc
  go_enter Try.func28, Try.ntmps28
  go_wp2_with fail
  (with_reducible refine (new_any A n cap _ HC.out).mono ?_)
  rintro e w1 ⟨B, hB, rfl, hcur, hb⟩
  have HU := Lib.hid hcur
  have HB := Lib.hid hb
  have HC1 := Lib.hid (HC.out.keep hb.block)
  clear hcur hb
  go_wp2_with fail
  (with_reducible refine (tree_any B w.heap.size A n cap _ HC1.out hB HU.out).mono ?_)
  rintro e w2 ⟨s, hs, rfl, hcur, hg⟩
  have HS := Lib.hid hs
  have HG := Lib.hid (below_of_grown HB.out hg hB)
  clear hs hcur hg
  go_wp2
  go_ret
  exact ⟨s, HS.out, rfl, HG.out⟩

set_option maxRecDepth 100000 in
set_option maxHeartbeats 1600000 in
theorem drawMirrorBinary (A : Option Addr) (n cap : Nat) (w : World) (hc : Code w w.heap.size A n) : Calls Try.prog 35 #[.slice A n cap] w (DrawsP6 Tree w) := by
  have HC := Lib.hid hc
  clear hc
  go_enter Try.func35, Try.ntmps35
  go_wp2_with fail
  (with_reducible refine (new_any A n cap _ HC.out).mono ?_)
  rintro e w1 ⟨B, hB, rfl, hcur, hb⟩
  have HU := Lib.hid hcur
  have HB := Lib.hid hb
  have HC1 := Lib.hid (HC.out.keep hb.block)
  clear hcur hb
  go_wp2_with fail
  (with_reducible refine (tree_any B w.heap.size A n cap _ HC1.out hB HU.out).mono ?_)
  rintro e w2 ⟨s, hs, rfl, hcur, hg⟩
  have HS := Lib.hid hs
  have HG := Lib.hid (below_of_grown HB.out hg hB)
  clear hs hcur hg
  go_wp2
  go_ret
  exact ⟨s, HS.out, rfl, HG.out⟩

set_option maxRecDepth 100000 in
set_option maxHeartbeats 1600000 in
theorem drawBinaryOf (A : Option Addr) (n cap : Nat) (w : World) (hc : Code w w.heap.size A n) : Calls Try.prog 33 #[.slice A n cap] w (DrawsP6 Word w) := by
  have HC := Lib.hid hc
  clear hc
  go_enter Try.func33, Try.ntmps33
  go_wp2_with fail
  (with_reducible refine (new_any A n cap _ HC.out).mono ?_)
  rintro e w1 ⟨B, hB, rfl, hcur, hb⟩
  have HU := Lib.hid hcur
  have HB := Lib.hid hb
  have HC1 := Lib.hid (HC.out.keep hb.block)
  clear hcur hb
  go_wp2_with fail
  (with_reducible refine (any_any B w.heap.size A n cap _ HC1.out hB HU.out).mono ?_)
  rintro e w2 ⟨s, hs, rfl, hcur, hg⟩
  have HS := Lib.hid hs
  have HG := Lib.hid (below_of_grown HB.out hg hB)
  clear hs hcur hg
  go_wp2
  go_ret
  exact ⟨s, HS.out, rfl, HG.out⟩

def DrawsR (m : Nat) (w : World) (e : Ending) (w' : World) : Prop := ∃ (v : Value) (xs : List Int), xs.length ≤ m ∧ e = .returned v ∧ (OwnI w' w.heap.size w'.heap.size v xs ∧ Room v xs.length) ∧ Below w.heap.size w w'
set_option maxRecDepth 100000 in
set_option maxHeartbeats 3200000 in
theorem drawBinaryOfLevels (A : Option Addr) (n cap : Nat) (w : World) (hc : Code w w.heap.size A n) : Calls Try.prog 31 #[.slice A n cap] w (DrawsR 25 w) := by
  have HC := Lib.hid hc
  clear hc
  go_enter Try.func31, Try.ntmps31
  go_wp2_with fail
  (with_reducible refine (new_any A n cap _ HC.out).mono ?_)
  rintro e w1 ⟨B, hB, rfl, hcur, hb⟩
  have HU := Lib.hid hcur
  have HB := Lib.hid hb
  have HC1 := Lib.hid (HC.out.keep hb.block)
  have hBlt := hcur.lt
  clear hcur hb
  go_wp2_with fail
  (with_reducible refine (tree_any B w.heap.size A n cap _ HC1.out hB HU.out).mono ?_)
  rintro e w2 ⟨s, hs, rfl, hcur, hg⟩
  unfold Tree at hs
  have HU2 := Lib.hid hcur
  have HG2 := Lib.hid (below_of_grown HB.out hg hB)
  have HC2 := Lib.hid (HC1.out.keep (fun b hb => hg.block b (by omega) (by simp; omega)))
  have z2 := hg.size
  clear hcur hg
  go_wp2_with fail
  (with_reducible refine (leafLevelsR s _ (by omega)).mono ?_)
  rintro e w3 ⟨v, rfl, ⟨ho, hroom⟩, hb⟩
  obtain ⟨A1, c1, rfl, k1⟩ := id ho
  have hl17 := lvP_len s
  have hcr : (lvP s).length ≤ c1 := by
    obtain ⟨A', c', e', hc'⟩ := hroom
    simp only [Value.slice.injEq] at e'
    rw [e'.2.2]; exact hc'
  clear hroom
  have HO := Lib.hid ho
  have HU3 := Lib.hid (HU2.out.keep (hb.block B (by have := HU2.out.lt; omega)))
  have HC3 := Lib.hid (HC2.out.keep (fun b hb2 => hb.block b (by have := HU2.out.lt; omega)))
  have z3 := hb.size
  have HB3 := Lib.hid (HG2.out.trans (hb.mono HG2.out.size))
  have hw2 := HG2.out.size
  clear k1 ho hb
  generalize lvP s = xs at *
  by_cases h0 : xs.length = 0
  · have hl0 : ¬ (0 : Int) < (xs.length : Int) := by omega
    go_wp2
    go_ret
    exact ⟨_, [], by simp, rfl, ⟨⟨_, _, rfl, .inl rfl⟩, ⟨_, _, rfl, by simp⟩⟩, HB3.out⟩
  · have hl0 : (0 : Int) < (xs.length : Int) := by omega
    go_wp2_with fail
    (with_reducible refine (once_any B w.heap.size A n cap 4 _ HC3.out hB HU3.out (by omega) (by omega)).mono ?_)
    rintro e w4 ⟨o, rfl, hcur, hg⟩
    have HU4 := Lib.hid hcur
    have HC4 := Lib.hid (HC3.out.keep (fun b hb => hg.block b (by omega) (by simp; omega)))
    have HO4 := Lib.hid (HO.out.grown hg (by omega) (Nat.le_refl _))
    have z4 := hg.size
    have HB4 := Lib.hid (below_of_grown HB3.out hg hB)
    clear hcur hg
    rcases o with _ | _
    · go_wp2
      go_ret
      exact ⟨_, xs, hl17, rfl, ⟨HO4.out.wide hw2 z4, ⟨_, _, rfl, hcr⟩⟩, HB4.out⟩
    · go_wp2_with fail
      (with_reducible refine (below_any B w.heap.size A n cap xs.length _ HC4.out hB HU4.out (by omega) (by omega)).mono ?_)
      rintro e w5 ⟨y, hy, rfl, hcur, hg⟩
      have HU5 := Lib.hid hcur
      have HC5 := Lib.hid (HC4.out.keep (fun b hb => hg.block b (by omega) (by simp; omega)))
      have HO5 := Lib.hid (HO4.out.grown hg (by omega) z4)
      have z5 := hg.size
      have HB5 := Lib.hid (below_of_grown HB4.out hg hB)
      clear hcur hg
      obtain ⟨y0, y1⟩ := hy
      obtain ⟨j, rfl⟩ : ∃ j : Nat, y = j := ⟨y.toNat, by omega⟩
      go_wp2_with fail
      (with_reducible refine (pick_any (fun _ => True) 6 B w.heap.size w5.heap.size A n cap _ (HC5.out.keep (fun b hb => Below.heap_alloc w5 _ b (by omega))) hB (HU5.out.keep (Below.heap_alloc w5 _ B (by omega))) (by omega) (by simp) (by omega) (by omega) ?hl).mono ?_)
      case hl => exact ints_cells (fun _ => True) w5 [0, 1, 2, 3, -1, 9] (fun _ _ => trivial)
      rintro e w6 ⟨u, -, rfl, hcur, hg⟩
      have HO6 := Lib.hid ((HO5.out.keep (Below.mono (below_alloc' w5 _) (by omega)) (Nat.le_refl _)).grown hg (by omega) (by simp; omega))
      have z6 := hg.size
      have HB6 := Lib.hid (below_of_grown (HB5.out.alloc HB5.out.size _) hg hB)
      clear hcur hg
      obtain ⟨g1, p1, e1, hg1, hg2, hc1, hf1⟩ := HO6.out.cell (j := j) (by omega)
      simp only [Value.slice.injEq] at e1
      obtain ⟨rfl, -, rfl⟩ := e1
      generalize xs.getD j 0 = y2 at hc1
      go_wp2
      go_ret
      exact ⟨_, xs.set j u, by rw [List.length_set]; exact hl17, rfl, ⟨(HO6.out.set (by omega) (by rw [List.length_set]) (by simp [List.getD, show j < xs.length by omega]) (fun i hi hne => by simp [List.getD, Ne.symm hne])).wide hw2 (by simp at z6 ⊢; omega), by rw [List.length_set]; exact ⟨_, _, rfl, hcr⟩⟩, HB6.out.setCell (p := ⟨g1, j, none⟩) (by simp; omega) _⟩

end Go.Proofs.Ytjplehkahbkcoaa
