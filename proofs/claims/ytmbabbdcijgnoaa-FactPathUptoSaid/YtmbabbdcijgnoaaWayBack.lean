/-
  way.Back (E2): the pairs that go back.
-/
import Derived.Test.YtmbabbdcijgnoaaWayOrd
namespace Go.Proofs.Ytmbabbdcijgnoaa
open Go.RowKit
set_option linter.unusedSimpArgs false
set_option linter.unusedVariables false
set_option maxRecDepth 100000

theorem idxL_in {L : List Nat} {x : Nat} (h : x ∈ L) : idxL L x = ((posL L x : Nat) : Int) := by unfold idxL; rw [if_pos h]

theorem idxL_out {L : List Nat} {x : Nat} (h : x ∉ L) : idxL L x = -1 := by unfold idxL; rw [if_neg h]

end Go.Proofs.Ytmbabbdcijgnoaa
