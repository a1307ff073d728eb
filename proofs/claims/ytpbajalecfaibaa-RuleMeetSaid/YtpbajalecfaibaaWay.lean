/-
  Package way keeps its contracts.
-/
import Derived.Test.YtpbajalecfaibaaWayBack
import Derived.Test.YtpbajalecfaibaaWayParts
namespace Go.Proofs.Ytpbajalecfaibaa
open Go.RowKit
set_option linter.unusedSimpArgs false
set_option linter.unusedVariables false
set_option maxRecDepth 100000

/-- 45 28 43 48 27 -/
theorem wayIs : WayIs where
  check := wayCheck_any
  reach := wayReach_any
  order := wayOrder_any
  orderBad := wayOrder_bad
  back := wayBack_any
  backBad := wayBack_bad
  parts := wayParts_any
  partsBad := wayParts_bad

end Go.Proofs.Ytpbajalecfaibaa
