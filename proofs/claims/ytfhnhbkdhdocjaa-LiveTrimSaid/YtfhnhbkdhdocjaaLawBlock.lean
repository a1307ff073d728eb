/-
  What the laws of package block share: equal lists of lists; codemasonlaw.progCode, codemasonkeep.runs.
-/
import Derived.Test.YtfhnhbkdhdocjaaBlockIs
import Derived.Test.YtfhnhbkdhdocjaaIntsSame
import Derived.Test.YtfhnhbkdhdocjaaTermed
import Derived.Deep.RegionWith
namespace Go.Proofs.Ytfhnhbkdhdocjaa
open Go.RowKit Go.ChangeShapes Go.WideShapes Go.ChangeAt Go.Deep
set_option linter.unusedSimpArgs false
set_option linter.unusedVariables false
set_option maxRecDepth 100000

theorem nxP_len (p : List Bk) : (nxP p).length = p.length := by simp [nxP]

theorem nxP_rows (p : List Bk) : ∀ row ∈ nxP p, row.length ≤ maxLen := fun row hr => by
  obtain ⟨b, _, rfl⟩ := List.mem_map.1 hr
  have := nxB_len b
  unfold maxLen
  omega

end Go.Proofs.Ytfhnhbkdhdocjaa
