/-
  The checks of terms: term.CheckOperation, term.checkTerm return what A1 says.
-/
import Derived.Test.YtfbpalgeajgbhaaBase
import Derived.Test.YtfbpalgeajgbhaaInside
namespace Go.Proofs.Ytfbpalgeajgbhaa
open Go.RowKit
set_option linter.unusedSimpArgs false
set_option linter.unusedVariables false
set_option maxRecDepth 100000

/-- what A1, B1 and C1 say of an operation and its number -/
def ckOpn (vars op v : Int) : Int := if op < 1 ∨ 6 < op then 6 else if (op = 1 ∧ ¬ (0 ≤ v ∧ v ≤ 255)) ∨ (op = 2 ∧ ¬ (0 ≤ v ∧ v < vars)) then 4 else 0

set_option maxHeartbeats 4000000 in
theorem checkOp_any (vars op v : Int) (w : World) :
    Calls Try.prog 58 #[.int .i64 vars, .int .i64 op, .int .i64 v] w fun e w' => e = .returned (.int .i64 (ckOpn vars op v)) ∧ Below w.heap.size w w' := by
  go_enter Try.func58, Try.ntmps58
  go_wp2
  all_goals
    go_returns
    refine ⟨ret_int ?_, by go_grown⟩
    go_light
    simp only [beq_iff_eq, beq_eq_false_iff_ne, Bool.not_eq_true', Bool.not_eq_false', decide_eq_true_eq, decide_eq_false_iff_not, ne_eq] at *
    unfold ckOpn
    (repeat' split) <;> omega

theorem ckTerm_bad {vars before op a b v : Int} (h : ckOpn vars op v ≠ 0) : ckTerm vars before op a b v = ckOpn vars op v := by
  unfold ckTerm
  unfold ckOpn at h ⊢
  (repeat' split) <;> simp_all <;> omega

theorem ckTerm_ok {vars before op a b v : Int} (h : ckOpn vars op v = 0) : ckTerm vars before op a b v = if 3 ≤ op ∧ ¬ (0 ≤ a ∧ a < before ∧ 0 ≤ b ∧ b < before) then 2 else 0 := by
  unfold ckTerm
  unfold ckOpn at h
  (repeat' split) <;> (repeat' split at h) <;> omega

theorem ckOpn_op {vars op v : Int} (h : ckOpn vars op v = 0) : 1 ≤ op ∧ op ≤ 6 := by
  unfold ckOpn at h
  (repeat' split at h) <;> omega

set_option maxHeartbeats 4000000 in
theorem checkTerm_any (vars before op a b v : Int) (w : World) :
    Calls Try.prog 54 #[.int .i64 vars, .int .i64 before, .agg #[.int .i64 op, .int .i64 a, .int .i64 b, .int .i64 v]] w fun e w' => e = .returned (.int .i64 (ckTerm vars before op a b v)) ∧ Below w.heap.size w w' := by
  by_cases hop : ckOpn vars op v = 0
  · have e1 : (ckOpn vars op v != 0) = false := by simp [hop]
    have HT := Lib.hid (ckTerm_ok (before := before) (a := a) (b := b) hop)
    have ho := ckOpn_op hop
    clear hop
    go_enter Try.func54, Try.ntmps54
    go_wp2_with fail
    (with_reducible refine (checkOp_any vars op v _).mono ?_)
    rintro e w1 ⟨rfl, hb1⟩
    have d0 : w1.cell? ⟨w.heap.size, 0, none⟩ = some (.int .i64 op) := (hb1.cell (p := ⟨w.heap.size, 0, none⟩) (by simp)).trans (by simp)
    have d1 : w1.cell? ⟨w.heap.size, 1, none⟩ = some (.int .i64 a) := (hb1.cell (p := ⟨w.heap.size, 1, none⟩) (by simp)).trans (by simp)
    have d2 : w1.cell? ⟨w.heap.size, 2, none⟩ = some (.int .i64 b) := (hb1.cell (p := ⟨w.heap.size, 2, none⟩) (by simp)).trans (by simp)
    have hb2 : Below w.heap.size w w1 := (by go_grown : Below w.heap.size w _).trans (hb1.mono (by simp))
    have hs1 : w.heap.size < w1.heap.size := by have := hb1.size; simp at this; omega
    clear hb1
    go_wp2
    all_goals
      go_returns
      refine ⟨ret_int ?_, hb2.trans (by go_grown)⟩
      rw [HT.out]
      (go_light; (try simp only [Bool.not_eq_true', Bool.not_eq_false', decide_eq_true_eq, decide_eq_false_iff_not, beq_iff_eq, beq_eq_false_iff_ne, bne_iff_ne, bne_eq_false_iff_eq, ne_eq, Bool.and_eq_true, Bool.or_eq_true, Bool.and_eq_false_iff, Bool.or_eq_false_iff, Decidable.not_not] at *))
      (repeat' split) <;> omega
  · have e1 : (ckOpn vars op v != 0) = true := by simp [hop]
    have HT := Lib.hid (ckTerm_bad (before := before) (a := a) (b := b) hop)
    clear hop
    go_enter Try.func54, Try.ntmps54
    go_wp2_with fail
    (with_reducible refine (checkOp_any vars op v _).mono ?_)
    rintro e w1 ⟨rfl, hb1⟩
    have hb2 : Below w.heap.size w w1 := (by go_grown : Below w.heap.size w _).trans (hb1.mono (by simp))
    clear hb1
    go_wp2
    all_goals
      go_returns
      exact ⟨ret_int HT.out.symm, hb2⟩

end Go.Proofs.Ytfbpalgeajgbhaa
