/-
  Package rule keeps its contracts.
-/
import Derived.Test.YtikbblbehopcdaaRuleTree
import Derived.Test.YtikbblbehopcdaaRuleMeet
namespace Go.Proofs.Ytikbblbehopcdaa
open Go.RowKit
set_option linter.unusedSimpArgs false
set_option linter.unusedVariables false
set_option maxRecDepth 100000

/-- 36 38 39 41 -/
theorem ruleIs : RuleIs where
  table := ruleTable_any
  tableBad := ruleTable_bad
  tree := ruleTree_any
  treeBad := ruleTree_bad
  edge := ruleEdge_any
  edgeBad := ruleEdge_bad
  meet := ruleMeet_any
  meetBad := ruleMeet_bad

end Go.Proofs.Ytikbblbehopcdaa
