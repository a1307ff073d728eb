/-
  A list has the same value for values that agree on the variables that it uses: codemasonkeep.TermUse returns true for all arguments and leaves them alone. No condition.
-/
import Derived.Test.YtacokdghfkpdpaaUses
import Derived.Test.YtacokdghfkpdpaaTermValue
import Derived.Test.YtacokdghfkpdpaaTermsRef
import Derived.Test.YtacokdghfkpdpaaComes
import Derived.Test.YtacokdghfkpdpaaBit
import Derived.Test.YtacokdghfkpdpaaLaw
import Derived.Test.YtacokdghfkpdpaaTermed
namespace Go.Proofs.Ytacokdghfkpdpaa
open Go.RowKit Go.ChangeShapes Go.WideShapes Go.ChangeAt Go.Deep
set_option linter.unusedSimpArgs false
set_option linter.unusedVariables false
set_option maxRecDepth 100000

/-- a store into a slice of the call's own -/
theorem own_set1 {w : World} {base : Nat} {e : TypeId} {A : Option Addr} {n c : Nat} {xs : List Value} {i : Nat} (u : Value) (h : w.ownsRow base e 1 (.slice A n c) n xs) (hi : i < n) :
    ∃ g v, A = some ⟨g, 0, none⟩ ∧ base ≤ g ∧ w.cell? ⟨g, i, none⟩ = some v ∧ w.frozen? ⟨g, i, none⟩ = false ∧ (w.setCell ⟨g, i, none⟩ u).ownsRow base e 1 (.slice A n c) n (xs.set i u) := by
  rcases h.2 with ⟨_, rfl⟩ | ⟨g, cap, cur, hv, h1, hh, h2, h3, h4, h5⟩
  · omega
  · injection hv with hA _ hc
    subst hA hc
    have hic : i < cur.size := by rw [h4]; omega
    refine ⟨g, cur[i], rfl, h1, ?_, ?_, ?_⟩
    · simp [World.cell?, hh, hic]
    · simp [World.frozen?, hh]
    · refine ⟨by simpa using h.1, .inr ⟨g, c, cur.set i u hic, rfl, h1, ?_, h2, h3, by simpa using h4, ?_⟩⟩
      · simp [World.setCell, Array.getElem?_modify, hh, Array.setIfInBounds, hic]
      · rw [Array.toList_set, Nat.mul_one, List.take_set, ← h5, Nat.mul_one]

end Go.Proofs.Ytacokdghfkpdpaa
