/-
  The checks of terms: term.below, its closure, term.checkTerm return what A1 says.
-/
import Derived.Test.YtaikcfmnjmdcmaaBase
import Derived.Test.YtaikcfmnjmdcmaaInside
namespace Go.Proofs.Ytaikcfmnjmdcmaa
open Go.RowKit
set_option linter.unusedSimpArgs false
set_option linter.unusedVariables false

set_option maxHeartbeats 4000000 in
theorem checkTerm_any (vars before op a b v : Int) (w : World) :
    Calls Try.prog 43 #[.int .i64 vars, .int .i64 before, .agg #[.int .i64 op, .int .i64 a, .int .i64 b, .int .i64 v]] w fun e w' => e = .returned (.int .i64 (ckTerm vars before op a b v)) ∧ Below w.heap.size w w' := by
  go_enter Try.func43, Try.ntmps43
  go_wp2
  all_goals
    go_returns
    refine ⟨ret_int ?_, by go_grown⟩
    go_light
    simp only [beq_iff_eq, beq_eq_false_iff_ne, Bool.not_eq_true', Bool.not_eq_false', decide_eq_true_eq, decide_eq_false_iff_not, ne_eq] at *
    unfold ckTerm
    (repeat' split) <;> omega

end Go.Proofs.Ytaikcfmnjmdcmaa
