/-
  Package way keeps its contracts.
-/
import Derived.Test.YtfijkkllfbpepaaWayBack
import Derived.Test.YtfijkkllfbpepaaWayParts
namespace Go.Proofs.Ytfijkkllfbpepaa
open Go.RowKit
set_option linter.unusedSimpArgs false
set_option linter.unusedVariables false
set_option maxRecDepth 100000

end Go.Proofs.Ytfijkkllfbpepaa
