/-
  codemasonref.Reach (E1): all to which one comes from a node, without another one.
-/
import Derived.Test.YtmbabbdcijgnoaaGraph
namespace Go.Proofs.Ytmbabbdcijgnoaa
open Go.RowKit
set_option linter.unusedSimpArgs false
set_option linter.unusedVariables false
set_option maxRecDepth 100000

end Go.Proofs.Ytmbabbdcijgnoaa
