/-
  codemasonref.Nexts (J2): where one may go from each block.
-/
import Derived.Test.YtggekjccblblpaaBlockRef
import Derived.Test.YtggekjccblblpaaMBase
namespace Go.Proofs.Ytggekjccblblpaa
open Go.RowKit
set_option linter.unusedSimpArgs false
set_option linter.unusedVariables false
set_option maxRecDepth 100000

theorem nxP_take {p : List Bk} {k : Nat} {b : Bk} (h : p[k]? = some b) : nxP (p.take (k + 1)) = nxP (p.take k) ++ [nxB b] := by
  unfold nxP
  rw [List.take_add_one, h, Option.toList_some, List.map_append]
  rfl

theorem own_lt {w : World} {base : Nat} {e : TypeId} {A : Option Addr} {n c : Nat} {xs : List Value} (h : w.ownsRow base e 1 (.slice A n c) n xs) : ∀ ad, A = some ad → ad.block < w.heap.size ∧ base ≤ ad.block := fun ad hA => by
  subst hA
  have := h.lt ad.block rfl
  exact ⟨this.2, this.1⟩

end Go.Proofs.Ytggekjccblblpaa
