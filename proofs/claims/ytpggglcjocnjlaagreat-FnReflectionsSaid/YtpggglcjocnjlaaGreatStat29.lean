/- The model's StatisticOf at the name depth. -/
import Derived.Test.YtpggglcjocnjlaaGreatFact29R
namespace Go.Proofs.YtpggglcjocnjlaaGreat
open Go.ChangeShapes Go.WideShapes Go.ChangeAt Go.RowKit
set_option linter.unusedVariables false

set_option maxRecDepth 100000 in
set_option maxHeartbeats 1600000 in
theorem statDepth (d p : ByteArray) (w : World) (hd : d = ⟨#[100, 101, 112, 116, 104]⟩) (hp : dyck p = true) : Calls Tryz.prog 22 #[.string d, .string p] w fun e w' => e = .returned (.int .i64 (dpA p.data.toList)) ∧ Below w.heap.size w w' := by
  have c1 : (d.toList == [112, 101, 97, 107, 115]) = false := by subst hd; decide +kernel
  have c2 : (d.toList == [114, 101, 116, 117, 114, 110, 115]) = false := by subst hd; decide +kernel
  have c3 : (d.toList == [114, 105, 115, 101]) = false := by subst hd; decide +kernel
  have c4 : (d.toList == [102, 97, 108, 108]) = false := by subst hd; decide +kernel
  have c5 : (d.toList == [97, 114, 101, 97]) = false := by subst hd; decide +kernel
  have c6 : (d.toList == [100, 101, 112, 116, 104]) = true := by subst hd; decide +kernel
  clear hd
  have h16 := dyck_size hp
  have HI := Lib.hid (fun W => isDyck_yes p W (by omega) hp)
  have HBR := Lib.hid (fun W => bracketsOf p W (by omega))
  have hbs : (bracketsP p).size ≤ 16 := by
    rw [show bracketsP p = ⟨(brL p p.size).toArray⟩ from if_pos hp, str_len, brL_len]; exact h16
  have HDE := Lib.hid (fun W => depthOf (bracketsP p) W (by omega))
  rw [br_depth hp] at HDE
  clear hp
  generalize bracketsP p = b at *
  generalize dpA p.data.toList = x at *
  go_enter Tryz.func22, Tryz.ntmps22
  go_wp2_with fail
  (with_reducible refine (HI.out _).mono ?_)
  rintro e w' ⟨rfl, rfl⟩
  go_wp2_with fail
  (with_reducible refine (HBR.out _).mono ?_)
  rintro e w' ⟨rfl, rfl⟩
  go_wp2_with fail
  (with_reducible refine (HDE.out _).mono ?_)
  rintro e w2 ⟨rfl, hb⟩
  go_wp2
  go_ret
  exact ⟨rfl, hb⟩

end Go.Proofs.YtpggglcjocnjlaaGreat
