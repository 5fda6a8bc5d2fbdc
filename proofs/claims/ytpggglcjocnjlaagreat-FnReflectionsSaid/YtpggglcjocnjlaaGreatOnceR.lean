/- sync.Once runs buildOnce of strings.Replacer. -/
import Derived.Test.YtpggglcjocnjlaaGreatOnce
import Derived.Test.YtpggglcjocnjlaaGreatBuild
namespace Go.Proofs.YtpggglcjocnjlaaGreat
open Go.ChangeShapes Go.WideShapes Go.ChangeAt Go.RowKit
set_option linter.unusedVariables false

/-- Block g is a strings.Replacer. -/
def RepAt (w : World) (g : Nat) (d st se : Int) (r v : Value) : Prop := w.heap[g]? = some (.cells #[.int .u32 d, .int .i32 st, .int .u32 se, r, v] 97 (0, 0))
theorem RepAt.lt {w : World} {g : Nat} {d st se : Int} {r v : Value} (h : RepAt w g d st se r v) : g < w.heap.size := (Array.getElem?_eq_some_iff.1 h).1
theorem RepAt.cells {w : World} {g : Nat} {d st se : Int} {r v : Value} (h : RepAt w g d st se r v) :
    w.cell? ⟨g, 0, none⟩ = some (.int .u32 d) ∧ w.cell? ⟨g, 1, none⟩ = some (.int .i32 st) ∧ w.cell? ⟨g, 2, none⟩ = some (.int .u32 se) ∧ w.cell? ⟨g, 3, none⟩ = some r ∧ w.cell? ⟨g, 4, none⟩ = some v ∧ ∀ q, w.frozen? ⟨g, q, none⟩ = false := by
  unfold RepAt at h
  refine ⟨by rw [cell_of_row w g 0 _ _ (0, 0) h]; rfl, by rw [cell_of_row w g 1 _ _ (0, 0) h]; rfl, by rw [cell_of_row w g 2 _ _ (0, 0) h]; rfl, by rw [cell_of_row w g 3 _ _ (0, 0) h]; rfl, by rw [cell_of_row w g 4 _ _ (0, 0) h]; rfl, fun q => by simp [World.frozen?, h]⟩
theorem RepAt.set0 {w : World} {g : Nat} {d st se d' : Int} {r v : Value} (h : RepAt w g d st se r v) : RepAt (w.setCell ⟨g, 0, none⟩ (.int .u32 d')) g d' st se r v := by
  unfold RepAt at h ⊢; simp [World.setCell, Array.getElem?_modify, h]
theorem RepAt.set1 {w : World} {g : Nat} {d st se d' : Int} {r v : Value} (h : RepAt w g d st se r v) : RepAt (w.setCell ⟨g, 1, none⟩ (.int .i32 d')) g d d' se r v := by
  unfold RepAt at h ⊢; simp [World.setCell, Array.getElem?_modify, h]
theorem RepAt.set3 {w : World} {g : Nat} {d st se : Int} {r v r' : Value} (h : RepAt w g d st se r v) : RepAt (w.setCell ⟨g, 3, none⟩ r') g d st se r' v := by
  unfold RepAt at h ⊢; simp [World.setCell, Array.getElem?_modify, h]
theorem RepAt.set4 {w : World} {g : Nat} {d st se : Int} {r v r' : Value} (h : RepAt w g d st se r v) : RepAt (w.setCell ⟨g, 4, none⟩ r') g d st se r r' := by
  unfold RepAt at h ⊢; simp [World.setCell, Array.getElem?_modify, h]
theorem RepAt.below {w w' : World} {g B : Nat} {d st se : Int} {r v : Value} (h : RepAt w g d st se r v) (hb : Below B w w') (hg : g < B) : RepAt w' g d st se r v := (hb.block g hg).trans h
theorem TabR.other {w : World} {g g' k : Nat} {f : Nat → Int} (h : TabR w g f) (hne : g' ≠ g) (y : Value) : TabR (w.setCell ⟨g', k, none⟩ y) g f :=
  h.keep (by simp [World.setCell, Array.getElem?_modify, hne])
theorem OwnS.other {w : World} {lo hi g k : Nat} {v : Value} {xs : List ByteArray} (h : OwnS w lo hi v xs) (hg : hi ≤ g) (y : Value) : OwnS (w.setCell ⟨g, k, none⟩ y) lo hi v xs :=
  h.keep ((Below.refl hi w).setCell (p := ⟨g, k, none⟩) hg y) (Nat.le_refl _)
/-- What Replacer holds when it has been built. -/
def brV (t : Nat) : Value := .iface 113 (.pointer (some ⟨t, 0, none⟩))

set_option maxRecDepth 100000 in
set_option maxHeartbeats 1600000 in
theorem buildOnceR (B g : Nat) (a b a' b' : UInt8) (d st se : Int) (r v : Value) (w : World) (lo hi : Nat) (hv : OwnS w lo hi v (four a b a' b')) (hhi : hi ≤ g) (hr : RepAt w g d st se r v) (hB : B ≤ g) :
    Calls Tryz.prog 69 #[.pointer (some ⟨g, 0, none⟩)] w fun e w' => ∃ t, e = .returned (.tuple #[]) ∧ g < t ∧ TabR w' t (swp a.toNat b.toNat a'.toNat b'.toNat) ∧ RepAt w' g d st se (brV t) (.slice none 0 0) ∧ Below B w w' := by
  have hlt := hr.lt
  obtain ⟨-, -, -, h3, h4, hf⟩ := hr.cells
  have HR := Lib.hid hr
  have HV := Lib.hid hv
  have HB := Lib.hid (buildR g a b a' b' v w lo hi hv (by omega) h4)
  clear hr hv h4 h3 hf
  go_enter Tryz.func69, Tryz.ntmps69
  go_wp2_with fail
  refine HB.out.mono ?_
  rintro e w1 ⟨t, rfl, ht, htab, hb⟩
  have HR1 := Lib.hid (HR.out.below hb hlt)
  obtain ⟨-, -, -, h3, h4, hf⟩ := HR1.out.cells
  have hf3 := hf 3
  have hf4 := hf 4
  have HT := Lib.hid htab
  have HB1 := Lib.hid hb
  clear htab hb hf HB
  go_wp2
  go_end0
  exact ⟨t, rfl, by omega, (HT.out.other (by omega) _).other (by omega) _, HR1.out.set3.set4, ((HB1.out.mono (by omega)).setCell (p := ⟨g, 3, none⟩) hB _).setCell (p := ⟨g, 4, none⟩) hB _⟩

end Go.Proofs.YtpggglcjocnjlaaGreat
