/-
  Of package known: what Fold does (L2), in one word.
-/
import Derived.Test.YtdckagledddkdaaKnownIs
import Derived.Test.YtdckagledddkdaaMPure
namespace Go.Proofs.Ytdckagledddkdaa
open Go.RowKit
set_option linter.unusedSimpArgs false
set_option linter.unusedVariables false
set_option maxRecDepth 100000

structure FoldIs : Prop where
  fold : ∀ (n : Nat) (A VA : Option Addr) (len cap vcap : Nat) (p : List Bk) (hv : List Int) (w : World), RdP w w.heap.size A p → RdI w w.heap.size VA hv → p.length = len → ckProg n p = 0 → KOk n hv →
    Calls Try.prog 12 #[.int .i64 n, .slice A len cap, .slice VA n vcap] w fun e w' => ∃ A' c' L, e = .returned (.tuple #[.slice A' len c', .int .i64 0]) ∧ RdP w' w'.heap.size A' (fdP p L) ∧ Least n p hv L ∧ Below w.heap.size w w'
  foldBad : ∀ (vars : Int) (A VA : Option Addr) (len cap vl vcap : Nat) (p : List Bk) (hv : List Int) (w : World), RdP w w.heap.size A p → RdI w w.heap.size VA hv → p.length = len → len ≤ maxLen → (∀ b ∈ p, InBk b) → hv.length = vl → vl ≤ maxLen → ckKnow vars p hv ≠ 0 →
    Calls Try.prog 12 #[.int .i64 vars, .slice A len cap, .slice VA vl vcap] w fun e w' => ∃ A' c', e = .returned (.tuple #[.slice A' 0 c', .int .i64 (ckKnow vars p hv)]) ∧ Below w.heap.size w w'

end Go.Proofs.Ytdckagledddkdaa
