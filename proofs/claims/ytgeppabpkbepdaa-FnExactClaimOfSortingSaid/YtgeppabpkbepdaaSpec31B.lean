/- The contracts of the model's IsSortable, PassesOf, BubbleOnce, PatternOf231. -/
import Derived.Test.YtgeppabpkbepdaaSpec31A
import Derived.Test.YtgeppabpkbepdaaCopy31
import Derived.Test.YtgeppabpkbepdaaFact31B
namespace Go.Proofs.Ytgeppabpkbepdaa
open Go.ChangeShapes Go.WideShapes Go.ChangeAt Go.RowKit
set_option linter.unusedVariables false

theorem ret_int31 {a b : Int} (h : a = b) : Ending.returned (.int .i64 a) = .returned (.int .i64 b) := by rw [h]

end Go.Proofs.Ytgeppabpkbepdaa
