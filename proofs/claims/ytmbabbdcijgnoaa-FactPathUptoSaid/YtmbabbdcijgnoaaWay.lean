/-
  Package way keeps its contracts.
-/
import Derived.Test.YtmbabbdcijgnoaaWayBack
import Derived.Test.YtmbabbdcijgnoaaWayParts
namespace Go.Proofs.Ytmbabbdcijgnoaa
open Go.RowKit
set_option linter.unusedSimpArgs false
set_option linter.unusedVariables false
set_option maxRecDepth 100000

end Go.Proofs.Ytmbabbdcijgnoaa
