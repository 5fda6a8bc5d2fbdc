/- The contracts of the model's l31Sort and SortOnce. -/
import Derived.Test.YtgeppabpkbepdaaTwo31
import Derived.Test.YtgeppabpkbepdaaSpec10A
import Derived.BigQuiet
namespace Go.Proofs.Ytgeppabpkbepdaa
open Go.ChangeShapes Go.WideShapes Go.ChangeAt Go.RowKit
set_option linter.unusedVariables false

end Go.Proofs.Ytgeppabpkbepdaa
