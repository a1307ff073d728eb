/-
  What package loop's functions do (G1, G2): their contracts in one word.
-/
import Derived.Test.YtpbajalecfaibaaLoopRef
import Derived.Test.YtpbajalecfaibaaRuleIs
import Derived.Test.YtpbajalecfaibaaWayIs
namespace Go.Proofs.Ytpbajalecfaibaa
open Go.RowKit
set_option linter.unusedSimpArgs false
set_option linter.unusedVariables false
set_option maxRecDepth 100000

/-- G1: the loops, as words -/
structure Lps (nx : List (List Int)) (ws : List Nat) : Prop where
  len : ws.length = nx.length
  lt : ∀ (i W : Nat), ws[i]? = some W → W < 256
  mem : ∀ (i W : Nat), ws[i]? = some W → ∀ j, W.testBit j = true ↔ LoopP nx i j

/-- the loops among the first m that hold i -/
def dpN (ws : List Nat) (i m : Nat) : Nat := ((ws.take m).filter fun W => W.testBit i).length

/-- G1: of how many loops each node is -/
structure Dps (nx : List (List Int)) (ds : List Int) : Prop where
  len : ds.length = nx.length
  at_ : ∀ (i : Nat) (d : Int), ds[i]? = some d → ∀ ws, Lps nx ws → d = (dpN ws i ws.length : Nat)

structure LoopIs : Prop where
  loops : ∀ (A : Option Addr) (len cap : Nat) (nx : List (List Int)) (w : World), RdG w w.heap.size A nx → nx.length = len → ckWay nx = 0 →
    Calls Try.prog 18 #[.slice A len cap] w fun e w' => ∃ ws A' c', Lps nx ws ∧ e = .returned (.tuple #[.slice A' len c', .int .i64 0]) ∧ RdU w' w'.heap.size A' ws ∧ Below w.heap.size w w'
  loopsBad : ∀ (A : Option Addr) (len cap : Nat) (nx : List (List Int)) (w : World), RdG w w.heap.size A nx → nx.length = len → len ≤ maxLen → ckWay nx ≠ 0 →
    Calls Try.prog 18 #[.slice A len cap] w fun e w' => ∃ A' c', e = .returned (.tuple #[.slice A' 0 c', .int .i64 (ckWay nx)]) ∧ Below w.heap.size w w'
  deep : ∀ (A : Option Addr) (len cap : Nat) (nx : List (List Int)) (w : World), RdG w w.heap.size A nx → nx.length = len → ckWay nx = 0 →
    Calls Try.prog 20 #[.slice A len cap] w fun e w' => ∃ ds A' c', Dps nx ds ∧ e = .returned (.tuple #[.slice A' len c', .int .i64 0]) ∧ RdI w' w'.heap.size A' ds ∧ Below w.heap.size w w'
  deepBad : ∀ (A : Option Addr) (len cap : Nat) (nx : List (List Int)) (w : World), RdG w w.heap.size A nx → nx.length = len → len ≤ maxLen → ckWay nx ≠ 0 →
    Calls Try.prog 20 #[.slice A len cap] w fun e w' => ∃ A' c', e = .returned (.tuple #[.slice A' 0 c', .int .i64 (ckWay nx)]) ∧ Below w.heap.size w w'
  tame : ∀ (A : Option Addr) (len cap : Nat) (nx : List (List Int)) (w : World), RdG w w.heap.size A nx → nx.length = len → ckWay nx = 0 →
    Calls Try.prog 21 #[.slice A len cap] w fun e w' => ∃ T : Bool, (T = true ↔ TameP nx) ∧ e = .returned (.tuple #[.bool T, .int .i64 0]) ∧ Below w.heap.size w w'
  tameBad : ∀ (A : Option Addr) (len cap : Nat) (nx : List (List Int)) (w : World), RdG w w.heap.size A nx → nx.length = len → len ≤ maxLen → ckWay nx ≠ 0 →
    Calls Try.prog 21 #[.slice A len cap] w fun e w' => e = .returned (.tuple #[.bool false, .int .i64 (ckWay nx)]) ∧ Below w.heap.size w w'
  fold : ∀ (A : Option Addr) (len cap : Nat) (nx : List (List Int)) (w : World), RdG w w.heap.size A nx → nx.length = len → ckWay nx = 0 →
    Calls Try.prog 23 #[.slice A len cap] w fun e w' => ∃ k : Nat, Red (gOf nx) k ∧ e = .returned (.tuple #[.int .i64 (k : Nat), .int .i64 0]) ∧ Below w.heap.size w w'
  foldBad : ∀ (A : Option Addr) (len cap : Nat) (nx : List (List Int)) (w : World), RdG w w.heap.size A nx → nx.length = len → len ≤ maxLen → ckWay nx ≠ 0 →
    Calls Try.prog 23 #[.slice A len cap] w fun e w' => e = .returned (.tuple #[.int .i64 0, .int .i64 (ckWay nx)]) ∧ Below w.heap.size w w'

/-- of package rule: what stage 7's laws call -/
structure TableIs : Prop where
  table : ∀ (A : Option Addr) (len cap : Nat) (nx : List (List Int)) (w : World), RdG w w.heap.size A nx → nx.length = len → ckWay nx = 0 →
    Calls Try.prog 25 #[.slice A len cap] w fun e w' => ∃ ws A' c', Tbl nx ws ∧ e = .returned (.tuple #[.slice A' len c', .int .i64 0]) ∧ RdU w' w'.heap.size A' ws ∧ Below w.heap.size w w'
  tableBad : ∀ (A : Option Addr) (len cap : Nat) (nx : List (List Int)) (w : World), RdG w w.heap.size A nx → nx.length = len → len ≤ maxLen → ckWay nx ≠ 0 →
    Calls Try.prog 25 #[.slice A len cap] w fun e w' => ∃ A' c', e = .returned (.tuple #[.slice A' 0 c', .int .i64 (ckWay nx)]) ∧ Below w.heap.size w w'

/-- of package way: what stage 7's laws call -/
structure PartIs : Prop where
  reach : ∀ (A : Option Addr) (len cap : Nat) (nx : List (List Int)) (w : World), RdG w w.heap.size A nx → nx.length = len → len ≤ maxLen →
    Calls Try.prog 28 #[.slice A len cap] w fun e w' => e = .returned (.tuple #[.int .u32 (reachW nx : Nat), .int .i64 (ckWay nx)]) ∧ Below w.heap.size w w'
  parts : ∀ (A : Option Addr) (len cap : Nat) (nx : List (List Int)) (w : World), RdG w w.heap.size A nx → nx.length = len → ckWay nx = 0 →
    Calls Try.prog 27 #[.slice A len cap] w fun e w' => ∃ ws A' c', Pts nx ws ∧ e = .returned (.tuple #[.slice A' len c', .int .i64 0]) ∧ RdU w' w'.heap.size A' ws ∧ Below w.heap.size w w'
  partsBad : ∀ (A : Option Addr) (len cap : Nat) (nx : List (List Int)) (w : World), RdG w w.heap.size A nx → nx.length = len → len ≤ maxLen → ckWay nx ≠ 0 →
    Calls Try.prog 27 #[.slice A len cap] w fun e w' => ∃ A' c', e = .returned (.tuple #[.slice A' 0 c', .int .i64 (ckWay nx)]) ∧ Below w.heap.size w w'

end Go.Proofs.Ytpbajalecfaibaa
