/- DividePolynomials, the model: no dividend (written by tools/mk14g.py). -/
import Derived.Test.YtpelicepgeoopaaSpec14E
import Derived.Test.YtpelicepgeoopaaNil14
namespace Go.Proofs.Ytpelicepgeoopaa
open Go.ChangeShapes Go.WideShapes Go.ChangeAt Go.RowKit
set_option linter.unusedVariables false

end Go.Proofs.Ytpelicepgeoopaa
