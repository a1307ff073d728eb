/-
  codemasonref.BackPairs and Twos (E2): the pairs that go back.
-/
import Derived.Test.YtgcjknibelfjbaaWalkRef
import Derived.Test.YtgcjknibelfjbaaMBase
namespace Go.Proofs.Ytgcjknibelfjbaa
open Go.RowKit
set_option linter.unusedSimpArgs false
set_option linter.unusedVariables false
set_option maxRecDepth 100000

/-- a pair as cells -/
def pv (p : Nat × Nat) : List Value := [.int .i64 (p.1 : Int), .int .i64 (p.2 : Int)]

theorem pv_len : ∀ p, (pv p).length = 2 := fun _ => rfl

theorem pv_one (a b : Nat) : ∀ u ∈ ([.int .i64 (a : Int), .int .i64 (b : Int)] : List Value), u.oneCell' = true := fun u hu => by
  simp at hu
  rcases hu with rfl | rfl <;> rfl

theorem posL_le {l : List Nat} {x k : Nat} (hd : l.Nodup) (h : l[k]? = some x) : posL l x = k := posL_at hd h

end Go.Proofs.Ytgcjknibelfjbaa
