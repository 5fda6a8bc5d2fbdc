/- The contracts of the program's BallotNumber, CatalanNumber, beginningUp, binomial and NarayanaNumber. -/
import Derived.Test.YtcckpodpgenapaaImpl3A
import Derived.Test.YtcckpodpgenapaaSpec3D
import Derived.Test.YtcckpodpgenapaaSpec3E
namespace Go.Proofs.Ytcckpodpgenapaa
open Go.ChangeShapes Go.WideShapes Go.ChangeAt Go.RowKit
set_option linter.unusedVariables false

theorem tab_row (cs : Array Value) (k : Nat) (hk : k < 16) (w : World) : (Instr.index 69 (.agg cs) (.int .i64 k)).run Try.prog w = .ok (.agg (cs.extract (k * 16) (k * 16 + 16))) w := by
  have h1 : (0 : Int) ≤ (k : Int) ∧ (k : Int) < 16 := by omega
  simp [Instr.index, run_underlying Try.underlying69, asIntOf, h1, go_sem]
  intro h; omega
theorem row_cell (cs : Array Value) (v : Value) (q : Nat) (hq : q < 16) (hv : cs[q]? = some v) (w : World) : (Instr.index 67 (.agg cs) (.int .i64 q)).run Try.prog w = .ok v w := by
  have h1 : (0 : Int) ≤ (q : Int) ∧ (q : Int) < 16 := by omega
  simp [Instr.index, run_underlying Try.underlying67, asIntOf, h1, go_sem]
  rw [if_pos hq, hv]; rfl
theorem row_get (k q : Nat) (hk : k < 16) (hq : q < 16) : (ballotCells.extract (k * 16) (k * 16 + 16))[q]? = some (.int .i64 (wy k q)) := by
  have hs := ballot_size
  rw [Array.getElem?_extract, if_pos (by omega), ballot_get _ (by omega), wyQ_at _ _ hq]

set_option maxRecDepth 100000 in
theorem beginningUp (g u d : Nat) (w : World) (ht : TabB w g wyQ) (hu : u ≤ 16) (hd : d < 16) :
    Calls Try.prog 67 #[.pointer (some ⟨g, 0, none⟩), .int .i64 u, .int .i64 d] w fun e w' => e = .returned (.int .i64 (ways u d)) ∧ w = w' := by
  rcases u with _ | p
  · have HP := Lib.hid (show ways 0 d = 0 from rfl)
    go_enter Try.func67, Try.ntmps67
    go_wp2
    go_ret
    exact ⟨ret_int HP.out.symm, rfl⟩
  · have HP := Lib.hid (show ways (p + 1) d = wy p d from if_pos (by omega))
    obtain ⟨hc, -⟩ := ht.cell (q := p * 16 + d) (by omega)
    rw [wyQ_at _ _ hd] at hc
    have hne : ((p : Int) + 1 == 0) = false := beq_eq_false_iff_ne.2 (by omega)
    have hp1 : (p : Int) < 16 := by omega
    have hd1 : (d : Int) < 16 := by omega
    clear ht
    go_enter Try.func67, Try.ntmps67
    go_wp2
    go_ret
    exact ⟨ret_int HP.out.symm, rfl⟩

end Go.Proofs.Ytcckpodpgenapaa
