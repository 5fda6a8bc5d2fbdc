/- The contracts of the program's BallotNumber, CatalanNumber, beginningUp, binomial and NarayanaNumber. -/
import Derived.Test.YtpggglcjocnjlaaGreatImpl3A
import Derived.Test.YtpggglcjocnjlaaGreatSpec3D
import Derived.Test.YtpggglcjocnjlaaGreatSpec3E
namespace Go.Proofs.YtpggglcjocnjlaaGreat
open Go.ChangeShapes Go.WideShapes Go.ChangeAt Go.RowKit
set_option linter.unusedVariables false

theorem tab_row (cs : Array Value) (k : Nat) (hk : k < 16) (w : World) : (Instr.index 75 (.agg cs) (.int .i64 k)).run Tryz.prog w = .ok (.agg (cs.extract (k * 16) (k * 16 + 16))) w := by
  have h1 : (0 : Int) ≤ (k : Int) ∧ (k : Int) < 16 := by omega
  simp [Instr.index, run_underlying Tryz.underlying75, asIntOf, h1, go_sem]
  intro h; omega
theorem row_cell (cs : Array Value) (v : Value) (q : Nat) (hq : q < 16) (hv : cs[q]? = some v) (w : World) : (Instr.index 73 (.agg cs) (.int .i64 q)).run Tryz.prog w = .ok v w := by
  have h1 : (0 : Int) ≤ (q : Int) ∧ (q : Int) < 16 := by omega
  simp [Instr.index, run_underlying Tryz.underlying73, asIntOf, h1, go_sem]
  rw [if_pos hq, hv]; rfl
theorem row_get (k q : Nat) (hk : k < 16) (hq : q < 16) : (ballotCells.extract (k * 16) (k * 16 + 16))[q]? = some (.int .i64 (wy k q)) := by
  have hs := ballot_size
  rw [Array.getElem?_extract, if_pos (by omega), ballot_get _ (by omega), wyQ_at _ _ hq]

set_option maxRecDepth 100000 in
set_option maxHeartbeats 800000 in
theorem ballotNumberI (u d : Int) (w : World) : Calls Tryz.prog 39 #[.int .i64 u, .int .i64 d] w fun e w' => e = .returned (.int .i64 (ballP u d)) ∧ Below w.heap.size w w' := by
  by_cases h0 : u < 0
  · have HP := Lib.hid (show ballP u d = 0 from if_neg (by omega))
    go_enter Tryz.func39, Tryz.ntmps39
    go_wp2
    go_ret
    exact ⟨ret_int HP.out.symm, Below.refl _ _⟩
  by_cases h2 : d < u
  · have HP := Lib.hid (show ballP u d = 0 from if_neg (by omega))
    have h0' : decide (u < 0) = false := by simpa using h0
    go_enter Tryz.func39, Tryz.ntmps39
    go_wp2
    go_ret
    exact ⟨ret_int HP.out.symm, Below.refl _ _⟩
  have h0' : decide (u < 0) = false := by simpa using h0
  have h2' : decide (d < u) = false := by simpa using h2
  by_cases h3 : 15 < d
  · have HP := Lib.hid (show ballP u d = 0 from if_neg (by omega))
    go_enter Tryz.func39, Tryz.ntmps39
    go_wp2
    go_ret
    exact ⟨ret_int HP.out.symm, Below.refl _ _⟩
  have h3' : decide (15 < d) = false := by simpa using h3
  obtain ⟨k, rfl⟩ : ∃ k : Nat, u = k := ⟨u.toNat, by omega⟩
  obtain ⟨q, rfl⟩ : ∃ q : Nat, d = q := ⟨d.toNat, by omega⟩
  have HP := Lib.hid (show ballP k q = wy k q from if_pos (by omega))
  have hk : (k : Int) < 16 := by omega
  have hq : (q : Int) < 16 := by omega
  go_enter Tryz.func39, Tryz.ntmps39
  go_wp2_with fail
  refine (makeBallots _).mono ?_
  rintro e w1 ⟨rfl, hb⟩
  have hI1 := tab_row ballotCells k (by omega)
  have hI2 := row_cell _ _ q (by omega) (row_get k q (by omega) (by omega))
  generalize ballotCells.extract (k * 16) (k * 16 + 16) = row at hI1 hI2
  go_wp2
  go_ret
  exact ⟨ret_int HP.out.symm, hb⟩

set_option maxRecDepth 100000 in
theorem catalanNumberI (n : Int) (w : World) : Calls Tryz.prog 17 #[.int .i64 n] w fun e w' => e = .returned (.int .i64 (catP n)) ∧ Below w.heap.size w w' := by
  by_cases h0 : n < 0
  · have HP := Lib.hid (show catP n = -1 from if_neg (by omega))
    go_enter Tryz.func17, Tryz.ntmps17
    go_wp2
    go_ret
    exact ⟨ret_int HP.out.symm, Below.refl _ _⟩
  have h0' : decide (n < 0) = false := by simpa using h0
  by_cases h1 : 15 < n
  · have HP := Lib.hid (show catP n = -1 from if_neg (by omega))
    go_enter Tryz.func17, Tryz.ntmps17
    go_wp2
    go_ret
    exact ⟨ret_int HP.out.symm, Below.refl _ _⟩
  have h1' : decide (15 < n) = false := by simpa using h1
  have HP := Lib.hid (show catP n = ballP n n by unfold catP ballP; rw [if_pos (by omega), if_pos (by omega)])
  go_enter Tryz.func17, Tryz.ntmps17
  go_wp2_with fail
  refine (ballotNumberI n n _).mono ?_
  rintro e w1 ⟨rfl, hb⟩
  go_wp2
  go_ret
  exact ⟨ret_int HP.out.symm, hb⟩

end Go.Proofs.YtpggglcjocnjlaaGreat
