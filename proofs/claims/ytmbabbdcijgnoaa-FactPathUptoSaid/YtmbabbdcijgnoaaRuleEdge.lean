/-
  rule.Edge, rule.frontier, rule.Meet (F2).
-/
import Derived.Test.YtmbabbdcijgnoaaRuleTab
namespace Go.Proofs.Ytmbabbdcijgnoaa
open Go.RowKit
set_option linter.unusedSimpArgs false
set_option linter.unusedVariables false
set_option maxRecDepth 100000

theorem Tbl.exit {nx : List (List Int)} {ws : List Nat} (h : Tbl nx ws) {v t a V T : Nat} (hV : ws[v]? = some V) (hT : ws[t]? = some T) : ExitP nx a v t ↔ (V.testBit a = true ∧ (a = t ∨ T.testBit a = false)) := by
  unfold ExitP
  rw [h.mem v V hV]
  constructor
  · rintro ⟨h1, h2 | h2⟩
    · exact ⟨h1, .inl h2.symm⟩
    · refine ⟨h1, .inr ?_⟩
      cases hb : T.testBit a with
      | false => rfl
      | true => exact absurd ((h.mem t T hT a).1 hb) h2
  · rintro ⟨h1, h2 | h2⟩
    · exact ⟨h1, .inl h2.symm⟩
    · refine ⟨h1, .inr fun hd => ?_⟩
      rw [(h.mem t T hT a).2 hd] at h2
      cases h2

end Go.Proofs.Ytmbabbdcijgnoaa
