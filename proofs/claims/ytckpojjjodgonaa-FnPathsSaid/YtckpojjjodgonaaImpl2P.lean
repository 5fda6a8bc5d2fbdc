/- The contract of the program's PeaksOf: it asks that the library's variable of the longest search holds an int. -/
import Derived.Test.YtckpojjjodgonaaImpl2C
import Derived.Test.YtckpojjjodgonaaPlainP
import Derived.Test.YtckpojjjodgonaaShelf
namespace Go.Proofs.Ytckpojjjodgonaa
open Go.ChangeShapes Go.WideShapes Go.ChangeAt Go.RowKit
set_option linter.unusedVariables false

/-- The library's variable MaxLen holds an int. -/
def MaxInt (w : World) : Prop := ∃ m : Int, w.cell? ⟨0, 0, none⟩ = some (.int .i64 m) ∧ 0 < w.heap.size
theorem MaxInt.of {w : World} (h : w.ShapedOpen Try.prog) : MaxInt w := by
  obtain ⟨m, hm0⟩ := Try.laysM138.s1_3 w h
  have hm : w.cell? ⟨0, 0, none⟩ = some (.int .i64 m) := hm0
  refine ⟨m, hm, ?_⟩
  rcases Nat.lt_or_ge 0 w.heap.size with h | h
  · exact h
  · simp [World.cell?, Array.getElem?_eq_none h] at hm
theorem MaxInt.keep {w w' : World} (h : MaxInt w) (hb : Below w.heap.size w w') : MaxInt w' := by
  obtain ⟨m, hm, hl⟩ := h
  exact ⟨m, (hb.cell (p := ⟨0, 0, none⟩) hl).trans hm, Nat.lt_of_lt_of_le hl hb.size⟩

set_option maxRecDepth 100000 in
theorem peaksOfI (s : ByteArray) (w : World) (hw : MaxInt w) : Calls Try.prog 35 #[.string s] w fun e w' => e = .returned (.int .i64 (peaksP s)) ∧ Below w.heap.size w w' := by
  rcases hd : dyck s with _ | _
  · have HP := Lib.hid (show peaksP s = -1 from if_neg (by simp [hd]))
    have HD := Lib.hid hd
    clear hd
    go_enter Try.func35, Try.ntmps35
    go_wp2_with fail
    (with_reducible refine (isDyckI_no s _ HD.out).mono ?_)
    rintro e w' ⟨rfl, hb⟩
    go_wp2
    go_ret
    exact ⟨ret_int HP.out.symm, hb⟩
  · have HP := Lib.hid (show peaksP s = (Lib.countB s ⟨#[117, 100]⟩ : Int) by rw [count_peaks]; exact if_pos hd)
    have HD := Lib.hid hd
    have h16 := dyck_size hd
    clear hd
    go_enter Try.func35, Try.ntmps35
    go_wp2_with fail
    (with_reducible refine (isDyckI_yes s _ HD.out).mono ?_)
    rintro e w1 ⟨rfl, hb1⟩
    obtain ⟨m, hm, -⟩ := hw.keep hb1
    have HM := Lib.hid hm
    clear hm
    go_wp2_with fail
    refine (Try.strings_Count s _ m _ (by omega) HM.out (by decide)).mono ?_
    rintro e w2 ⟨rfl, rfl⟩
    go_wp2
    go_ret
    exact ⟨ret_int HP.out.symm, hb1⟩

end Go.Proofs.Ytckpojjjodgonaa
