/-
  codemasonref.ProgCheck (J1).
-/
import Derived.Test.YthmcigdoaededaaBlockOpen
import Derived.Test.YthmcigdoaededaaMTerm
namespace Go.Proofs.Ythmcigdoaededaa
open Go.RowKit
set_option linter.unusedSimpArgs false
set_option linter.unusedVariables false
set_option maxRecDepth 100000

/-- J1: what is said of a block's ways -/
def ckTail (vars n te th el : Int) : Int :=
  if te ≠ -1 ∧ ¬ (0 ≤ te ∧ te < vars) then 2
  else if te = -1 ∧ th ≠ -1 ∧ ¬ (0 ≤ th ∧ th < n) then 3
  else if 0 ≤ te ∧ ¬ (0 ≤ th ∧ th < n ∧ 0 ≤ el ∧ el < n) then 3 else 0

theorem ckBk_tail {vars n : Int} {c : List St} {te th el : Int} (h : ckStepsF vars vars c = 0) : ckBk vars n ⟨c, te, th, el⟩ = ckTail vars n te th el := by
  unfold ckBk ckTail
  rw [if_neg (by simp [h])]

theorem manyS_small : ∀ {p : List Bk}, (∀ b ∈ p, InBk b) → manyS p * 40 ≤ p.length * 140737488351232
  | [], _ => by simp [manyS]
  | b :: p, h => by
    have h1 := (h b (List.mem_cons_self ..)).1
    have h2 := manyS_small (p := p) fun x hx => h x (List.mem_cons_of_mem _ hx)
    simp only [manyS, List.length_cons]
    omega

end Go.Proofs.Ythmcigdoaededaa
