/-
  term.Value and codemasonref.Term reckon the value of a list of terms.
-/
import Derived.Test.YteogdcjigigeeaaMTerm
import Derived.StillTailTactics
namespace Go.Proofs.Yteogdcjigigeeaa
open Go.RowKit
set_option linter.unusedSimpArgs false
set_option linter.unusedVariables false
set_option maxRecDepth 100000

theorem int_info : (Try.prog.info? 3).map (fun i => (i.zero, i.size, i.bytes)) = some (some (.int .i64 0), 1, 8) := by kernel_rfl

end Go.Proofs.Yteogdcjigigeeaa
