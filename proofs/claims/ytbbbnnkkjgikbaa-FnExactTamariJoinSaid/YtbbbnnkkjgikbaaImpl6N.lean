/- Levels of leaves, heights, numbers of nodes: the program's levels, LeafLevels, HeightOf, NodesOf. -/
import Derived.Test.YtbbbnnkkjgikbaaImpl6T
import Derived.Test.YtbbbnnkkjgikbaaSpec6F
import Derived.Deep.AppendLies
import Derived.Lib.Bytealg
import Derived.Deep.RegionHeld3
namespace Go.Proofs.Ytbbbnnkkjgikbaa
open Go.ChangeShapes Go.WideShapes Go.ChangeAt Go.RowKit
open Go.PlainAid (bt bt_nonneg bt_le get_bt bt_end)
set_option linter.unusedVariables false

theorem count_sh : ∀ t : Tr, (sh t).count 40 = nds t
  | .leaf => rfl
  | .node a b => by simp only [sh, nds, List.count_cons, List.count_append, count_sh a, count_sh b, List.count_nil]; simp
/-- How many parentheses a text opens. -/
def opens (s : ByteArray) : Int := (s.data.toList.count 40 : Nat)
set_option maxRecDepth 100000 in
set_option maxHeartbeats 800000 in
theorem count_open (s : ByteArray) (w : World) : Calls Try.prog 105 #[.string s, .string ⟨#[40]⟩] w fun e w' => e = .returned (.int .i64 (opens s)) ∧ w = w' := by
  have hc : ∀ w : World, (callFunc 121 #[.string s, .int .u8 (((⟨#[40]⟩ : ByteArray)[0]'(by decide)).toNat : Int)]).run Try.prog w = .ok (.value (.int .i64 (opens s))) w := fun w => by
    rw [run_callFunc_extern Try.func121 (by kernel_rfl) (by kernel_rfl) (by kernel_rfl) (e := Extern.BytealgCount.count) (by kernel_rfl), Lib.run_countString]
    rfl
  go_enter Try.func105, Try.ntmps105
  go_wp2
  go_ret
  exact ⟨rfl, rfl⟩
set_option maxRecDepth 100000 in
set_option maxHeartbeats 800000 in
theorem nodesOfI (s : ByteArray) (w : World) (hs : s.size ≤ 1099511627776) : Calls Try.prog 85 #[.string s] w fun e w' => e = .returned (.int .i64 (nodesP s)) ∧ Below w.heap.size w w' := by
  have HI := Lib.hid (isBinaryI s w hs)
  rcases hb : binB s with _ | _
  · have HP := Lib.hid (show nodesP s = -1 from if_neg (by rw [hb]; simp))
    rw [hb] at HI
    clear hb
    go_enter Try.func85, Try.ntmps85
    go_wp2_with fail
    (with_reducible refine HI.out.mono ?_)
    rintro e w1 ⟨rfl, hb1⟩
    go_wp2
    go_ret
    exact ⟨ret_int HP.out.symm, hb1⟩
  · have HP := Lib.hid (show nodesP s = opens s by
      obtain ⟨t, rfl⟩ := tree_of s.size s (Nat.le_refl _) hb
      unfold opens
      rw [baL_list, count_sh]
      unfold nodesP
      rw [if_pos hb, baL_size, sh_len]
      congr 1; omega)
    have HC := Lib.hid (count_open s)
    rw [hb] at HI
    clear hb
    go_enter Try.func85, Try.ntmps85
    go_wp2_with fail
    (with_reducible refine HI.out.mono ?_)
    rintro e w1 ⟨rfl, hb1⟩
    go_wp2_with fail
    (with_reducible refine (HC.out _).mono ?_)
    rintro e w2 ⟨rfl, rfl⟩
    go_wp2
    go_ret
    exact ⟨ret_int HP.out.symm, hb1⟩

end Go.Proofs.Ytbbbnnkkjgikbaa
