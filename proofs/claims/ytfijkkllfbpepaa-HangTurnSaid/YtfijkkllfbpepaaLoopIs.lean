/-
  What package loop's functions do (G1, G2): their contracts in one word.
-/
import Derived.Test.YtfijkkllfbpepaaLoopRef
import Derived.Test.YtfijkkllfbpepaaRuleIs
import Derived.Test.YtfijkkllfbpepaaWayIs
namespace Go.Proofs.Ytfijkkllfbpepaa
open Go.RowKit
set_option linter.unusedSimpArgs false
set_option linter.unusedVariables false
set_option maxRecDepth 100000

/-- G1: the loops, as words -/
structure Lps (nx : List (List Int)) (ws : List Nat) : Prop where
  len : ws.length = nx.length
  lt : ∀ (i W : Nat), ws[i]? = some W → W < 256
  mem : ∀ (i W : Nat), ws[i]? = some W → ∀ j, W.testBit j = true ↔ LoopP nx i j

/-- the loops among the first m that hold i -/
def dpN (ws : List Nat) (i m : Nat) : Nat := ((ws.take m).filter fun W => W.testBit i).length

/-- G1: of how many loops each node is -/
structure Dps (nx : List (List Int)) (ds : List Int) : Prop where
  len : ds.length = nx.length
  at_ : ∀ (i : Nat) (d : Int), ds[i]? = some d → ∀ ws, Lps nx ws → d = (dpN ws i ws.length : Nat)

/-- of package rule: what stage 7's laws call -/
structure TableIs : Prop where
  table : ∀ (A : Option Addr) (len cap : Nat) (nx : List (List Int)) (w : World), RdG w w.heap.size A nx → nx.length = len → ckWay nx = 0 →
    Calls Try.prog 17 #[.slice A len cap] w fun e w' => ∃ ws A' c', Tbl nx ws ∧ e = .returned (.tuple #[.slice A' len c', .int .i64 0]) ∧ RdU w' w'.heap.size A' ws ∧ Below w.heap.size w w'
  tableBad : ∀ (A : Option Addr) (len cap : Nat) (nx : List (List Int)) (w : World), RdG w w.heap.size A nx → nx.length = len → len ≤ maxLen → ckWay nx ≠ 0 →
    Calls Try.prog 17 #[.slice A len cap] w fun e w' => ∃ A' c', e = .returned (.tuple #[.slice A' 0 c', .int .i64 (ckWay nx)]) ∧ Below w.heap.size w w'

end Go.Proofs.Ytfijkkllfbpepaa
