/- The program's functions of chapter 6 as one package. -/
import Derived.Test.YtjplehkahbkcoaaPackT
import Derived.Test.YtjplehkahbkcoaaImpl6D
namespace Go.Proofs.Ytjplehkahbkcoaa
open Go.ChangeShapes Go.WideShapes Go.ChangeAt Go.RowKit
set_option linter.unusedVariables false

theorem implT : ImplT where
  path := fun s hs w => pathOfBinaryI s w (by omega)
  isb := fun s hs w => isBinaryI s w (by omega)
  lvs := fun s hs w => leafLevelsI s w (by omega)
  nod := fun s hs w => nodesOfI s w (by omega)
  hei := fun s hs w => heightOfI s w (by omega)
  bin := fun s hs w => binaryOfI s w
  bol := fun A xs cap lo hi w ho hc hl hh => binaryOfLevelsI A xs cap lo hi w ho hc hl
  mir := fun s hs w => mirrorBinaryI s w (by omega)
  par := fun s hs w => partsOfBinaryI s w (by omega)

end Go.Proofs.Ytjplehkahbkcoaa
