/- The program's NestingsOf. -/
import Derived.Test.YtcckpodpgenapaaImpl9S
namespace Go.Proofs.Ytcckpodpgenapaa
open Go.ChangeShapes Go.WideShapes Go.ChangeAt Go.RowKit Go.Shelf
attribute [local go_sem] Oper.semAt_some
set_option linter.unusedVariables false

def nR (c d : Int × Int) : Bool := contB c.1 c.2 d.1 d.2

def nsA (xs : List Int) : Int := if matchP xs = true then (cntO nR (arcL xs xs.length) (arcL xs xs.length) : Int) else -1
end Go.Proofs.Ytcckpodpgenapaa
