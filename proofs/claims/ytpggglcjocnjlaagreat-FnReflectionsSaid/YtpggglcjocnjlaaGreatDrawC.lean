/- The contracts of the drawing functions for paths: words of at most so many letters. -/
import Derived.Test.YtpggglcjocnjlaaGreatDrawB
import Derived.Test.YtpggglcjocnjlaaGreatStrs
namespace Go.Proofs.YtpggglcjocnjlaaGreat
open Go.ChangeShapes Go.WideShapes Go.ChangeAt Go.RowKit
set_option linter.unusedVariables false

set_option maxRecDepth 100000 in
set_option maxHeartbeats 1600000 in
theorem once_any (B K : Nat) (A : Option Addr) (n cap : Nat) (m : Int) (w : World) (hc : Code w K A n) (hK : K ≤ B) (hcur : Cur w B A n cap) (hm0 : 0 < m) (hmm : m ≤ 1000000000000) :
    Calls Tryz.prog 54 #[.pointer (some ⟨B, 0, none⟩), .int .i64 m] w fun e w' => ∃ b : Bool, e = .returned (.bool b) ∧ Cur w' B A n cap ∧ w.grownBy w' (some B) := by
  have HC := Lib.hid hc
  have HU := Lib.hid hcur
  clear hc hcur
  go_enter Tryz.func54, Tryz.ntmps54
  go_wp2_with fail
  (with_reducible refine (below_any B K A n cap m _ HC.out hK HU.out hm0 hmm).mono ?_)
  rintro e w1 ⟨y, hy, rfl, hcur, hg⟩
  have HU1 := Lib.hid hcur
  have HG := Lib.hid hg
  clear hcur hg
  go_wp2
  go_ret
  exact ⟨_, rfl, HU1.out, HG.out⟩

end Go.Proofs.YtpggglcjocnjlaaGreat
