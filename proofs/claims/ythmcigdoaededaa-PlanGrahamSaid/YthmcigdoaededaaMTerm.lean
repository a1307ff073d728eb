/-
  Several texts in one: TermCk, TermCheck, Apply, StepCk, Steps.
-/
import Derived.Test.YthmcigdoaededaaMBase
import Derived.Test.YthmcigdoaededaaMPure

/-
  The checks of terms: term.CheckOperation, term.checkTerm return what A1 says.
-/

namespace Go.Proofs.Ythmcigdoaededaa
open Go.RowKit
set_option linter.unusedSimpArgs false
set_option linter.unusedVariables false
set_option maxRecDepth 100000

/-- what A1, B1 and C1 say of an operation and its number -/
def ckOpn (vars op v : Int) : Int := if op < 1 ∨ 6 < op then 6 else if (op = 1 ∧ ¬ (0 ≤ v ∧ v ≤ 255)) ∨ (op = 2 ∧ ¬ (0 ≤ v ∧ v < vars)) then 4 else 0

theorem ckTerm_bad {vars before op a b v : Int} (h : ckOpn vars op v ≠ 0) : ckTerm vars before op a b v = ckOpn vars op v := by
  unfold ckTerm
  unfold ckOpn at h ⊢
  (repeat' split) <;> simp_all <;> omega

theorem ckTerm_ok {vars before op a b v : Int} (h : ckOpn vars op v = 0) : ckTerm vars before op a b v = if 3 ≤ op ∧ ¬ (0 ≤ a ∧ a < before ∧ 0 ≤ b ∧ b < before) then 2 else 0 := by
  unfold ckTerm
  unfold ckOpn at h
  (repeat' split) <;> (repeat' split at h) <;> omega

theorem ckOpn_op {vars op v : Int} (h : ckOpn vars op v = 0) : 1 ≤ op ∧ op ≤ 6 := by
  unfold ckOpn at h
  (repeat' split at h) <;> omega

end Go.Proofs.Ythmcigdoaededaa

/-
  term.Check and codemasonref.TermsCheck return the code that A1 gives.
-/

namespace Go.Proofs.Ythmcigdoaededaa
open Go.RowKit
set_option linter.unusedSimpArgs false
set_option linter.unusedVariables false
set_option maxRecDepth 100000

end Go.Proofs.Ythmcigdoaededaa

/-
  term.apply and codemasonref.Op compute A1's operations; term.checkHave and codemasonref.HaveCheck give A2's code of values.
-/

namespace Go.Proofs.Ythmcigdoaededaa
open Go.RowKit
set_option linter.unusedSimpArgs false
set_option linter.unusedVariables false
set_option maxRecDepth 100000

end Go.Proofs.Ythmcigdoaededaa

/-
  need.CheckStep, need.StepValue: one step of register code (B1, J1).
-/

namespace Go.Proofs.Ythmcigdoaededaa
open Go.RowKit
set_option linter.unusedSimpArgs false
set_option linter.unusedVariables false
set_option maxRecDepth 100000

theorem ckStep_bad {vars regs o t a b v : Int} (h : ckOpn vars o v ≠ 0) : ckStep vars regs o t a b v = ckOpn vars o v := by
  unfold ckStep
  unfold ckOpn at h ⊢
  (repeat' split at h) <;> (repeat' split) <;> omega

theorem stval_num {hv r : List Int} {t a b v : Int} : v = stV hv ⟨1, t, a, b, v⟩ r := by simp [stV]

theorem stval_var {hv r : List Int} {t a b x : Int} {v : Nat} (h : hv[v]? = some x) : x = stV hv ⟨2, t, a, b, v⟩ r := by simp [stV, h]

theorem stval_op {hv r : List Int} {o t v x y : Int} {a b : Nat} (ho : 3 ≤ o) (hx : r[a]? = some x) (hy : r[b]? = some y) : opv o x y = stV hv ⟨o, t, a, b, v⟩ r := by
  have h1 : ¬ o = 1 := by omega
  have h2 : ¬ o = 2 := by omega
  simp [stV, h1, h2, hx, hy]

end Go.Proofs.Ythmcigdoaededaa

/-
  need.validCount, need.checkCode; codemasonref.StepCheck, StepsCheck: the code of register code (B1).
-/

namespace Go.Proofs.Ythmcigdoaededaa
open Go.RowKit
set_option linter.unusedSimpArgs false
set_option linter.unusedVariables false
set_option maxRecDepth 100000

end Go.Proofs.Ythmcigdoaededaa
