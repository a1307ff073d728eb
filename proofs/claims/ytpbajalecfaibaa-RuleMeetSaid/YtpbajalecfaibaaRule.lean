/-
  Package rule keeps its contracts.
-/
import Derived.Test.YtpbajalecfaibaaRuleTree
import Derived.Test.YtpbajalecfaibaaRuleMeet
namespace Go.Proofs.Ytpbajalecfaibaa
open Go.RowKit
set_option linter.unusedSimpArgs false
set_option linter.unusedVariables false
set_option maxRecDepth 100000

/-- 12 -/
theorem meetIs : MeetIs := ⟨ruleMeet_any, ruleMeet_bad⟩

end Go.Proofs.Ytpbajalecfaibaa
