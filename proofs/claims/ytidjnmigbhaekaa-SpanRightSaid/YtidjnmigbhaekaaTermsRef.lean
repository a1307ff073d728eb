/-
  codemasonref.TermsCheck returns the code that A1 gives.
-/
import Derived.Test.YtidjnmigbhaekaaMTerm
namespace Go.Proofs.Ytidjnmigbhaekaa
open Go.RowKit
set_option linter.unusedSimpArgs false
set_option linter.unusedVariables false
set_option maxRecDepth 100000

end Go.Proofs.Ytidjnmigbhaekaa
