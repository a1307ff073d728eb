/-
  What package value's functions give, in plain words (D1): no program's text.
-/
import Derived.Test.YtacokdghfkpdpaaPureLeast
namespace Go.Proofs.Ytacokdghfkpdpaa
set_option linter.unusedSimpArgs false
set_option linter.unusedVariables false

def inB (n : Nat) (i : Int) : Prop := 0 ≤ i ∧ i < n

instance (n : Nat) (i : Int) : Decidable (inB n i) := by unfold inB; infer_instance

/-- D1: the code of Same -/
def ckSame (vars : Int) (l : List Tm) (i j : Int) : Int := if ckTerms vars l = 0 then (if inB l.length i ∧ inB l.length j then 0 else 2) else ckTerms vars l

/-- D1: what Same gives -/
def sameR (vars : Int) (l : List Tm) (i j : Int) : Bool := if ckSame vars l i j = 0 then decide (fv l i.toNat = fv l j.toNat) else false

theorem ckSame_ok {vars : Int} {l : List Tm} {i j : Int} (h : ckSame vars l i j = 0) : ckTerms vars l = 0 ∧ inB l.length i ∧ inB l.length j := by
  unfold ckSame at h
  split at h
  · split at h
    · rename_i h1 h2; exact ⟨h1, h2⟩
    · omega
  · exact absurd h (by assumption)

theorem ckSame_of {vars : Int} {l : List Tm} {i j : Int} (h : ckTerms vars l = 0) (h1 : inB l.length i) (h2 : inB l.length j) : ckSame vars l i j = 0 := by
  unfold ckSame
  rw [if_pos h, if_pos ⟨h1, h2⟩]

theorem sameR_of {vars : Int} {l : List Tm} {i j : Int} (h : ckSame vars l i j = 0) : sameR vars l i j = decide (fv l i.toNat = fv l j.toNat) := by
  unfold sameR
  rw [if_pos h]

end Go.Proofs.Ytacokdghfkpdpaa
