/-
  The checks of terms: term.CheckOperation, term.checkTerm return what A1 says.
-/
import Derived.Test.YtdckagledddkdaaMBase
namespace Go.Proofs.Ytdckagledddkdaa
open Go.RowKit
set_option linter.unusedSimpArgs false
set_option linter.unusedVariables false
set_option maxRecDepth 100000

/-- what A1, B1 and C1 say of an operation and its number -/
def ckOpn (vars op v : Int) : Int := if op < 1 ∨ 6 < op then 6 else if (op = 1 ∧ ¬ (0 ≤ v ∧ v ≤ 255)) ∨ (op = 2 ∧ ¬ (0 ≤ v ∧ v < vars)) then 4 else 0

set_option maxHeartbeats 4000000 in
theorem checkOp_any (vars op v : Int) (w : World) :
    Calls Try.prog 53 #[.int .i64 vars, .int .i64 op, .int .i64 v] w fun e w' => e = .returned (.int .i64 (ckOpn vars op v)) ∧ Below w.heap.size w w' := by
  go_enter Try.func53, Try.ntmps53
  go_wp2
  all_goals
    go_returns
    refine ⟨ret_int ?_, by go_grown⟩
    go_light
    simp only [beq_iff_eq, beq_eq_false_iff_ne, Bool.not_eq_true', Bool.not_eq_false', decide_eq_true_eq, decide_eq_false_iff_not, ne_eq] at *
    unfold ckOpn
    (repeat' split) <;> omega

theorem ckTerm_bad {vars before op a b v : Int} (h : ckOpn vars op v ≠ 0) : ckTerm vars before op a b v = ckOpn vars op v := by
  unfold ckTerm
  unfold ckOpn at h ⊢
  (repeat' split) <;> simp_all <;> omega

theorem ckTerm_ok {vars before op a b v : Int} (h : ckOpn vars op v = 0) : ckTerm vars before op a b v = if 3 ≤ op ∧ ¬ (0 ≤ a ∧ a < before ∧ 0 ≤ b ∧ b < before) then 2 else 0 := by
  unfold ckTerm
  unfold ckOpn at h
  (repeat' split) <;> (repeat' split at h) <;> omega

theorem ckOpn_op {vars op v : Int} (h : ckOpn vars op v = 0) : 1 ≤ op ∧ op ≤ 6 := by
  unfold ckOpn at h
  (repeat' split at h) <;> omega

end Go.Proofs.Ytdckagledddkdaa
