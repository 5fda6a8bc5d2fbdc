/- The contract of the program's partnersOf at the empty word. -/
import Derived.Test.YtcckpodpgenapaaPlainKb
import Derived.BigQuiet
namespace Go.Proofs.Ytcckpodpgenapaa
open Go.ChangeShapes Go.WideShapes Go.ChangeAt Go.RowKit
set_option linter.unusedVariables false

end Go.Proofs.Ytcckpodpgenapaa
