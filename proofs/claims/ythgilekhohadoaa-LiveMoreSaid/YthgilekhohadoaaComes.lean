/-
  codemasonref.Has and codemasonref.Comes: the terms by which the last one comes about, in their order.
-/
import Derived.Test.YthgilekhohadoaaInts
import Derived.Test.YthgilekhohadoaaApp
namespace Go.Proofs.Ythgilekhohadoaa
open Go.RowKit
set_option linter.unusedSimpArgs false
set_option linter.unusedVariables false
set_option maxRecDepth 100000

def hasB : List Int → Int → Bool
  | [], _ => false
  | y :: r, x => if x = y then true else hasB r x

theorem hasB_iff : ∀ {xs : List Int} {x : Int}, hasB xs x = true ↔ x ∈ xs
  | [], x => by simp [hasB]
  | y :: r, x => by
    unfold hasB
    split
    · simp [*]
    · rw [hasB_iff]; simp [*]

theorem hasB_go {x y : Int} {r : List Int} (h : (x == y) = false) : hasB (y :: r) x = hasB r x := by
  have : ¬ x = y := by simpa using h
  simp only [hasB, if_neg this]

theorem hasB_stop {x y : Int} {r : List Int} (h : (x == y) = true) : hasB (y :: r) x = true := by
  have : x = y := by simpa using h
  simp only [hasB, if_pos this]

def lenOf : Value → Nat
  | .slice _ n _ => n
  | _ => 0

end Go.Proofs.Ythgilekhohadoaa
