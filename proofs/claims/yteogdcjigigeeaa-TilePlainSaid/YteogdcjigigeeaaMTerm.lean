/-
  Several texts in one: TermCk, TermCheck, Apply, StepCk, Steps.
-/
import Derived.Test.YteogdcjigigeeaaMBase
import Derived.Test.YteogdcjigigeeaaMPure

/-
  The checks of terms: term.CheckOperation, term.checkTerm return what A1 says.
-/

namespace Go.Proofs.Yteogdcjigigeeaa
open Go.RowKit
set_option linter.unusedSimpArgs false
set_option linter.unusedVariables false
set_option maxRecDepth 100000

/-- what A1, B1 and C1 say of an operation and its number -/
def ckOpn (vars op v : Int) : Int := if op < 1 ∨ 6 < op then 6 else if (op = 1 ∧ ¬ (0 ≤ v ∧ v ≤ 255)) ∨ (op = 2 ∧ ¬ (0 ≤ v ∧ v < vars)) then 4 else 0

set_option maxHeartbeats 4000000 in
theorem checkOp_any (vars op v : Int) (w : World) :
    Calls Try.prog 41 #[.int .i64 vars, .int .i64 op, .int .i64 v] w fun e w' => e = .returned (.int .i64 (ckOpn vars op v)) ∧ Below w.heap.size w w' := by
  go_enter Try.func41, Try.ntmps41
  go_wp2
  all_goals
    go_returns
    refine ⟨ret_int ?_, by go_grown⟩
    go_light
    simp only [beq_iff_eq, beq_eq_false_iff_ne, Bool.not_eq_true', Bool.not_eq_false', decide_eq_true_eq, decide_eq_false_iff_not, ne_eq] at *
    unfold ckOpn
    (repeat' split) <;> omega

theorem ckTerm_bad {vars before op a b v : Int} (h : ckOpn vars op v ≠ 0) : ckTerm vars before op a b v = ckOpn vars op v := by
  unfold ckTerm
  unfold ckOpn at h ⊢
  (repeat' split) <;> simp_all <;> omega

theorem ckTerm_ok {vars before op a b v : Int} (h : ckOpn vars op v = 0) : ckTerm vars before op a b v = if 3 ≤ op ∧ ¬ (0 ≤ a ∧ a < before ∧ 0 ≤ b ∧ b < before) then 2 else 0 := by
  unfold ckTerm
  unfold ckOpn at h
  (repeat' split) <;> (repeat' split at h) <;> omega

theorem ckOpn_op {vars op v : Int} (h : ckOpn vars op v = 0) : 1 ≤ op ∧ op ≤ 6 := by
  unfold ckOpn at h
  (repeat' split at h) <;> omega

set_option maxHeartbeats 4000000 in
theorem checkTerm_any (vars before op a b v : Int) (w : World) :
    Calls Try.prog 40 #[.int .i64 vars, .int .i64 before, .agg #[.int .i64 op, .int .i64 a, .int .i64 b, .int .i64 v]] w fun e w' => e = .returned (.int .i64 (ckTerm vars before op a b v)) ∧ Below w.heap.size w w' := by
  by_cases hop : ckOpn vars op v = 0
  · have e1 : (ckOpn vars op v != 0) = false := by simp [hop]
    have HT := Lib.hid (ckTerm_ok (before := before) (a := a) (b := b) hop)
    have ho := ckOpn_op hop
    clear hop
    go_enter Try.func40, Try.ntmps40
    go_wp2_with fail
    (with_reducible refine (checkOp_any vars op v _).mono ?_)
    rintro e w1 ⟨rfl, hb1⟩
    have d0 : w1.cell? ⟨w.heap.size, 0, none⟩ = some (.int .i64 op) := (hb1.cell (p := ⟨w.heap.size, 0, none⟩) (by simp)).trans (by simp)
    have d1 : w1.cell? ⟨w.heap.size, 1, none⟩ = some (.int .i64 a) := (hb1.cell (p := ⟨w.heap.size, 1, none⟩) (by simp)).trans (by simp)
    have d2 : w1.cell? ⟨w.heap.size, 2, none⟩ = some (.int .i64 b) := (hb1.cell (p := ⟨w.heap.size, 2, none⟩) (by simp)).trans (by simp)
    have hb2 : Below w.heap.size w w1 := (by go_grown : Below w.heap.size w _).trans (hb1.mono (by simp))
    have hs1 : w.heap.size < w1.heap.size := by have := hb1.size; simp at this; omega
    clear hb1
    go_wp2
    all_goals
      go_returns
      refine ⟨ret_int ?_, hb2.trans (by go_grown)⟩
      rw [HT.out]
      (go_light; (try simp only [Bool.not_eq_true', Bool.not_eq_false', decide_eq_true_eq, decide_eq_false_iff_not, beq_iff_eq, beq_eq_false_iff_ne, bne_iff_ne, bne_eq_false_iff_eq, ne_eq, Bool.and_eq_true, Bool.or_eq_true, Bool.and_eq_false_iff, Bool.or_eq_false_iff, Decidable.not_not] at *))
      (repeat' split) <;> omega
  · have e1 : (ckOpn vars op v != 0) = true := by simp [hop]
    have HT := Lib.hid (ckTerm_bad (before := before) (a := a) (b := b) hop)
    clear hop
    go_enter Try.func40, Try.ntmps40
    go_wp2_with fail
    (with_reducible refine (checkOp_any vars op v _).mono ?_)
    rintro e w1 ⟨rfl, hb1⟩
    have hb2 : Below w.heap.size w w1 := (by go_grown : Below w.heap.size w _).trans (hb1.mono (by simp))
    clear hb1
    go_wp2
    all_goals
      go_returns
      exact ⟨ret_int HT.out.symm, hb2⟩

end Go.Proofs.Yteogdcjigigeeaa

/-
  term.Check and codemasonref.TermsCheck return the code that A1 gives.
-/

namespace Go.Proofs.Yteogdcjigigeeaa
open Go.RowKit
set_option linter.unusedSimpArgs false
set_option linter.unusedVariables false
set_option maxRecDepth 100000

set_option maxHeartbeats 1000000 in
theorem check_any (vars : Int) (A : Option Addr) (len cap : Nat) (l : List Tm) (w : World) (hx : RdT w w.heap.size A l) (hl : l.length = len) :
    Calls Try.prog 36 #[.int .i64 vars, .slice A len cap] w fun e w' => e = .returned (.int .i64 (ckTerms vars l)) ∧ Below w.heap.size w w' := by
  by_cases hbad : vars < 0 ∨ 6 < vars ∨ len = 0 ∨ 16 < len
  · have hf : ckTerms vars l = 1 := by unfold ckTerms; rw [hl, if_pos hbad]
    rw [hf]
    clear hf hx hl
    go_enter Try.func36, Try.ntmps36
    go_wp2
    all_goals first
      | (go_ret; exact ⟨rfl, by go_grown⟩)
      | (exfalso; simp_all; omega)
  · have hf : ckTerms vars l = ckAll vars 0 l := by unfold ckTerms; rw [hl, if_neg hbad]
    rw [hf]
    clear hf
    have h1 : 0 ≤ vars := by omega
    have h2 : vars ≤ 6 := by omega
    have h3 : 0 < len := by omega
    have h4 : len ≤ 16 := by omega
    clear hbad
    have h5 : ((len : Int) == 0) = false := by simp; omega
    have HL := Lib.hid hl
    clear hl
    go_enter Try.func36, Try.ntmps36
    go_wp2
    go_loopw [26] (fun i wr => ∃ k : Nat, k ≤ len ∧ i = .int .i64 k ∧ ckAll vars 0 l = ckAll vars k (l.drop k) ∧ Below w.heap.size w wr) (fun i _ => len - (intOf i).toNat)
    case atStart => exact ⟨0, Nat.zero_le _, rfl, rfl, Below.refl _ _⟩
    case round =>
      obtain ⟨k, hk, rfl, hr, hb⟩ := hrel
      have HR := Lib.hid hr
      clear hr
      by_cases hlt : k < len
      · obtain ⟨ad, o, a, b, v, rfl, hbl, hd, hc0, hc1, hc2, hc3⟩ := (hx.below hb (Nat.le_refl _)).at_ (k := k) (by rw [HL.out]; exact hlt)
        have HD := Lib.hid (drop_at hd)
        clear hd
        have hsz := hb.size
        go_wp2_with (go_at_call 40; refine (checkTerm_any _ _ _ _ _ _ _).mono ?_; rintro e w1 ⟨rfl, hb1⟩)
        all_goals first
          | (go_ret; exact ⟨ret_int (by rw [HR.out, HD.out]; exact (ckAll_stop (by assumption)).symm), (by go_grown : Below w.heap.size w _).trans (hb1.mono (by go_size))⟩)
          | (go_round
             case rel => exact ⟨k + 1, by omega, by go_num, by rw [HR.out, HD.out]; exact ckAll_go (by assumption), (by go_grown : Below w.heap.size w _).trans (hb1.mono (by go_size))⟩
             case measure => simp [intOf]; omega)
      · go_wp2
        go_ret
        exact ⟨ret_int (by rw [HR.out, List.drop_of_length_le (by rw [HL.out]; omega)]; rfl), hb⟩

end Go.Proofs.Yteogdcjigigeeaa

/-
  term.apply and codemasonref.Op compute A1's operations; term.checkHave and codemasonref.HaveCheck give A2's code of values.
-/

namespace Go.Proofs.Yteogdcjigigeeaa
open Go.RowKit
set_option linter.unusedSimpArgs false
set_option linter.unusedVariables false
set_option maxRecDepth 100000

end Go.Proofs.Yteogdcjigigeeaa

/-
  need.CheckStep, need.StepValue: one step of register code (B1, J1).
-/

namespace Go.Proofs.Yteogdcjigigeeaa
open Go.RowKit
set_option linter.unusedSimpArgs false
set_option linter.unusedVariables false
set_option maxRecDepth 100000

theorem ckStep_bad {vars regs o t a b v : Int} (h : ckOpn vars o v ≠ 0) : ckStep vars regs o t a b v = ckOpn vars o v := by
  unfold ckStep
  unfold ckOpn at h ⊢
  (repeat' split at h) <;> (repeat' split) <;> omega

theorem stval_num {hv r : List Int} {t a b v : Int} : v = stV hv ⟨1, t, a, b, v⟩ r := by simp [stV]

theorem stval_var {hv r : List Int} {t a b x : Int} {v : Nat} (h : hv[v]? = some x) : x = stV hv ⟨2, t, a, b, v⟩ r := by simp [stV, h]

theorem stval_op {hv r : List Int} {o t v x y : Int} {a b : Nat} (ho : 3 ≤ o) (hx : r[a]? = some x) (hy : r[b]? = some y) : opv o x y = stV hv ⟨o, t, a, b, v⟩ r := by
  have h1 : ¬ o = 1 := by omega
  have h2 : ¬ o = 2 := by omega
  simp [stV, h1, h2, hx, hy]

end Go.Proofs.Yteogdcjigigeeaa

/-
  need.validCount, need.checkCode; codemasonref.StepCheck, StepsCheck: the code of register code (B1).
-/

namespace Go.Proofs.Yteogdcjigigeeaa
open Go.RowKit
set_option linter.unusedSimpArgs false
set_option linter.unusedVariables false
set_option maxRecDepth 100000

end Go.Proofs.Yteogdcjigigeeaa
