/-
  term.Check and codemasonref.TermsCheck return the code that A1 gives.
-/
import Derived.Test.YtdckagledddkdaaTermCk
namespace Go.Proofs.Ytdckagledddkdaa
open Go.RowKit
set_option linter.unusedSimpArgs false
set_option linter.unusedVariables false
set_option maxRecDepth 100000

end Go.Proofs.Ytdckagledddkdaa
