/- The walks of laws over functions that answer lists: a list of ints (HeightsOf) and a list of strings (PrimesOf), from the two functions' contracts. -/
import Derived.Test.YtkpnfonedfomaaaSpec2B
import Derived.Test.YtkpnfonedfomaaaStrs
namespace Go.Proofs.Ytkpnfonedfomaaa
open Go.ChangeShapes Go.WideShapes Go.ChangeAt Go.RowKit
set_option linter.unusedVariables false

def AnsS (xs : List ByteArray) (w : World) (e : Ending) (w' : World) : Prop := ∃ v, e = .returned v ∧ OwnS w' w.heap.size w'.heap.size v xs ∧ Below w.heap.size w w'

end Go.Proofs.Ytkpnfonedfomaaa
