/-
  What package hang's functions do (H1, H2): their contracts in one word.
-/
import Derived.Test.YtfijkkllfbpepaaHangRef
import Derived.Test.YtfijkkllfbpepaaLoopIs
namespace Go.Proofs.Ytfijkkllfbpepaa
open Go.RowKit
set_option linter.unusedSimpArgs false
set_option linter.unusedVariables false
set_option maxRecDepth 100000

/-- H1: who postdominates each node, as words -/
structure Lst (nx : List (List Int)) (ws : List Nat) : Prop where
  len : ws.length = nx.length
  lt : ∀ (i W : Nat), ws[i]? = some W → W < 2 ^ nx.length
  mem : ∀ (i W : Nat), ws[i]? = some W → ∀ j, W.testBit j = true ↔ SureP nx i j

/-- H2: what hangs on each node, as words -/
structure Hgs (nx : List (List Int)) (ws : List Nat) : Prop where
  len : ws.length = nx.length
  lt : ∀ (i W : Nat), ws[i]? = some W → W < 2 ^ nx.length
  mem : ∀ (i W : Nat), ws[i]? = some W → ∀ j, W.testBit j = true ↔ HangP nx i j

/-- .. of package hang's first function -/
structure LastIs : Prop where
  last : ∀ (A : Option Addr) (len cap : Nat) (nx : List (List Int)) (w : World), RdG w w.heap.size A nx → nx.length = len → ckWay nx = 0 →
    Calls Try.prog 7 #[.slice A len cap] w fun e w' => ∃ ws A' c', Lst nx ws ∧ e = .returned (.tuple #[.slice A' len c', .int .i64 0]) ∧ RdU w' w'.heap.size A' ws ∧ Below w.heap.size w w'
  lastBad : ∀ (A : Option Addr) (len cap : Nat) (nx : List (List Int)) (w : World), RdG w w.heap.size A nx → nx.length = len → len ≤ maxLen → ckWay nx ≠ 0 →
    Calls Try.prog 7 #[.slice A len cap] w fun e w' => ∃ A' c', e = .returned (.tuple #[.slice A' 0 c', .int .i64 (ckWay nx)]) ∧ Below w.heap.size w w'

/-- .. of its second one -/
structure OnIs : Prop where
  on : ∀ (A : Option Addr) (len cap : Nat) (nx : List (List Int)) (w : World), RdG w w.heap.size A nx → nx.length = len → ckWay nx = 0 →
    Calls Try.prog 12 #[.slice A len cap] w fun e w' => ∃ ws A' c', Hgs nx ws ∧ e = .returned (.tuple #[.slice A' len c', .int .i64 0]) ∧ RdU w' w'.heap.size A' ws ∧ Below w.heap.size w w'
  onBad : ∀ (A : Option Addr) (len cap : Nat) (nx : List (List Int)) (w : World), RdG w w.heap.size A nx → nx.length = len → len ≤ maxLen → ckWay nx ≠ 0 →
    Calls Try.prog 12 #[.slice A len cap] w fun e w' => ∃ A' c', e = .returned (.tuple #[.slice A' 0 c', .int .i64 (ckWay nx)]) ∧ Below w.heap.size w w'

end Go.Proofs.Ytfijkkllfbpepaa
