/-
  What hold.Min, Lru, Fifo, Play return (P1): statements alone.
-/
import Derived.Test.YtjnmohphinldkaaPureHoldP
import Derived.Test.YtjnmohphinldkaaMBase
namespace Go.Proofs.Ytjnmohphinldkaa
open Go.RowKit
set_option linter.unusedSimpArgs false
set_option linter.unusedVariables false
set_option maxRecDepth 100000
/-- what misses returns -/
def missR : Option Nat → Value
  | some q => .tuple #[.int .i64 (q : Nat), .int .i64 0]
  | none => .tuple #[.int .i64 0, .int .i64 5]

/-- what Min returns -/
structure MinIs : Prop where
  ok : ∀ (A : Option Addr) (len cap p : Nat) (refs : List Int) (w : World), RdI w w.heap.size A refs → refs.length = len → len ≤ cap → cap ≤ maxLen → len ≤ 20 → 1 ≤ p → p ≤ 8 →
    Calls Try.prog 11 #[.slice A len cap, .int .i64 p] w fun e w' => (∃ k : Nat, Best p refs k ∧ e = .returned (.tuple #[.int .i64 k, .int .i64 0])) ∧ Below w.heap.size w w'
  bad : ∀ (A : Option Addr) (len cap : Nat) (p : Int) (w : World), len ≤ maxLen → (20 < len ∨ p < 1 ∨ 8 < p) →
    Calls Try.prog 11 #[.slice A len cap, .int .i64 p] w fun e w' => e = .returned (.tuple #[.int .i64 0, .int .i64 1]) ∧ Below w.heap.size w w'

/-- what Lru returns -/
structure LruIs : Prop where
  ok : ∀ (A : Option Addr) (len cap p : Nat) (refs : List Int) (w : World), RdI w w.heap.size A refs → refs.length = len → len ≤ cap → cap ≤ maxLen → len ≤ 20 → 1 ≤ p → p ≤ 8 →
    Calls Try.prog 14 #[.slice A len cap, .int .i64 p] w fun e w' => e = .returned (.tuple #[.int .i64 (lruG p [] refs : Nat), .int .i64 0]) ∧ Below w.heap.size w w'
  bad : ∀ (A : Option Addr) (len cap : Nat) (p : Int) (w : World), len ≤ maxLen → (20 < len ∨ p < 1 ∨ 8 < p) →
    Calls Try.prog 14 #[.slice A len cap, .int .i64 p] w fun e w' => e = .returned (.tuple #[.int .i64 0, .int .i64 1]) ∧ Below w.heap.size w w'

/-- what Fifo returns -/
structure FifoIs : Prop where
  ok : ∀ (A : Option Addr) (len cap p : Nat) (refs : List Int) (w : World), RdI w w.heap.size A refs → refs.length = len → len ≤ 20 → 1 ≤ p → p ≤ 8 →
    Calls Try.prog 16 #[.slice A len cap, .int .i64 p] w fun e w' => e = .returned (.tuple #[.int .i64 (fifoG p [] refs : Nat), .int .i64 0]) ∧ Below w.heap.size w w'
  bad : ∀ (A : Option Addr) (len cap : Nat) (p : Int) (w : World), len ≤ maxLen → (20 < len ∨ p < 1 ∨ 8 < p) →
    Calls Try.prog 16 #[.slice A len cap, .int .i64 p] w fun e w' => e = .returned (.tuple #[.int .i64 0, .int .i64 1]) ∧ Below w.heap.size w w'

/-- what Play returns -/
structure PlayIs : Prop where
  ok : ∀ (A : Option Addr) (len cap p : Nat) (refs : List Int) (A2 : Option Addr) (len2 cap2 : Nat) (out : List Int) (w : World), RdI w w.heap.size A refs → refs.length = len → RdI w w.heap.size A2 out → out.length = len2 → len2 ≤ maxLen → len ≤ 20 → 1 ≤ p → p ≤ 8 →
    Calls Try.prog 17 #[.slice A len cap, .int .i64 p, .slice A2 len2 cap2] w fun e w' => e = .returned (missR (playG p [] out 0 refs)) ∧ Below w.heap.size w w'
  bad : ∀ (A : Option Addr) (len cap : Nat) (p : Int) (A2 : Option Addr) (len2 cap2 : Nat) (w : World), len ≤ maxLen → (20 < len ∨ p < 1 ∨ 8 < p) →
    Calls Try.prog 17 #[.slice A len cap, .int .i64 p, .slice A2 len2 cap2] w fun e w' => e = .returned (.tuple #[.int .i64 0, .int .i64 1]) ∧ Below w.heap.size w w'

end Go.Proofs.Ytjnmohphinldkaa
