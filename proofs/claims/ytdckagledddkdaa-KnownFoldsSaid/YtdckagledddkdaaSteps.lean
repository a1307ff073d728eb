/-
  need.validCount, need.checkCode; codemasonref.StepCheck, StepsCheck: the code of register code (B1).
-/
import Derived.Test.YtdckagledddkdaaStepCk
import Derived.Test.YtdckagledddkdaaTermCheck
namespace Go.Proofs.Ytdckagledddkdaa
open Go.RowKit
set_option linter.unusedSimpArgs false
set_option linter.unusedVariables false
set_option maxRecDepth 100000

set_option maxHeartbeats 1000000 in
theorem stepCheck_any (vars regs o t a b v : Int) (w : World) :
    Calls Try.prog 28 #[.int .i64 vars, .int .i64 regs, .agg #[.int .i64 o, .int .i64 t, .int .i64 a, .int .i64 b, .int .i64 v]] w fun e w' => e = .returned (.int .i64 (ckStep vars regs o t a b v)) ∧ Below w.heap.size w w' := by
  go_enter Try.func28, Try.ntmps28
  go_wp2_with (first
    | (go_at_call 29; (with_reducible refine (refValue_any _ _).mono ?_); rintro e w1 ⟨rfl, rfl⟩)
    | (go_at_call 21; (with_reducible refine (inside1_any _ v _ _ _ ?_).mono ?_); (· (exact cell_new (by simp) rfl)); rintro e w1 ⟨rfl, rfl⟩)
    | (go_at_call 21; (with_reducible refine (inside1_any _ t _ _ _ ?_).mono ?_); (· (exact cell_new (by simp) rfl)); rintro e w1 ⟨rfl, rfl⟩)
    | (go_at_call 21; (with_reducible refine (inside2_any _ a b _ _ _ ?_ ?_).mono ?_); (· (exact cell_new (by simp) rfl)); (· (exact cell_new (by simp) rfl)); rintro e w1 ⟨rfl, rfl⟩))
  all_goals
    go_ret
    refine ⟨ret_int ?_, by go_grown⟩
    (go_light; (try simp only [Bool.not_eq_true', Bool.not_eq_false', decide_eq_true_eq, decide_eq_false_iff_not, beq_iff_eq, beq_eq_false_iff_ne, bne_iff_ne, bne_eq_false_iff_eq, ne_eq, Bool.and_eq_true, Bool.or_eq_true, Bool.and_eq_false_iff, Bool.or_eq_false_iff, Decidable.not_not] at *))
    unfold ckStep
    (repeat' split) <;> omega

end Go.Proofs.Ytdckagledddkdaa
