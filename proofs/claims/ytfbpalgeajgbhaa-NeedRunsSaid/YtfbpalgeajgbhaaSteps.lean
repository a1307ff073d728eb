/-
  need.validCount, need.checkCode; codemasonref.StepCheck, StepsCheck: the code of register code (B1).
-/
import Derived.Test.YtfbpalgeajgbhaaStepCk
import Derived.Test.YtfbpalgeajgbhaaTermCheck
namespace Go.Proofs.Ytfbpalgeajgbhaa
open Go.RowKit
set_option linter.unusedSimpArgs false
set_option linter.unusedVariables false
set_option maxRecDepth 100000

set_option maxHeartbeats 400000 in
theorem validCount_any (x : Int) (w : World) :
    Calls Try.prog 29 #[.int .i64 x] w fun e w' => e = .returned (.bool (decide (1 ≤ x ∧ x ≤ 8))) ∧ w = w' := by
  go_enter Try.func29, Try.ntmps29
  go_wp2
  all_goals (go_ret; refine ⟨ret_bool ?_, rfl⟩; simp; try omega)

set_option maxHeartbeats 4000000 in
theorem checkCode_any (vars regs : Int) (A : Option Addr) (len cap : Nat) (l : List St) (w : World) (hx : RdS w w.heap.size A l) (hl : l.length = len) (h0 : 0 ≤ vars) (h6 : vars ≤ 6) (hlen : len ≤ 40) :
    Calls Try.prog 30 #[.int .i64 vars, .slice A len cap, .int .i64 regs] w fun e w' => e = .returned (.int .i64 (ckStepsF vars regs l)) ∧ Below w.heap.size w w' := by
  have HL := Lib.hid hl
  clear hl
  go_enter Try.func30, Try.ntmps30
  go_wp2
  go_loopw [12] (fun i wr => ∃ k : Nat, k ≤ len ∧ i = .int .i64 k ∧ ckStepsF vars regs l = ckStepsF vars regs (l.drop k) ∧ Below w.heap.size w wr) (fun i _ => len - (intOf i).toNat)
  case atStart => exact ⟨0, Nat.zero_le _, rfl, rfl, Below.refl _ _⟩
  case round =>
    obtain ⟨k, hk, rfl, hr, hb⟩ := hrel
    have HR := Lib.hid hr
    clear hr
    by_cases hlt : k < len
    · obtain ⟨ad, o, t, a, b, v, rfl, hbl, hd, hc0, hc1, hc2, hc3, hc4⟩ := (hx.below hb (Nat.le_refl _)).at_ (k := k) (by rw [HL.out]; exact hlt)
      have HD := Lib.hid (drop_at hd)
      clear hd
      have hsz := hb.size
      by_cases hop : ckStep vars regs o t a b v = 0
      · have HO := Lib.hid hop
        have e1 : (ckStep vars regs o t a b v != 0) = false := by simp [hop]
        clear hop
        go_wp2_with (go_at_call 49; (with_reducible refine (checkStep_any _ _ _ _ _ _ _ _).mono ?_); rintro e w1 ⟨rfl, hb1⟩)
        go_round
        case rel => exact ⟨k + 1, by omega, by go_num, by rw [HR.out, HD.out]; exact ckStepsF_go HO.out, (by go_grown : Below w.heap.size w _).trans (hb1.mono (by go_size))⟩
        case measure => simp [intOf]; omega
      · have HO := Lib.hid hop
        have e1 : (ckStep vars regs o t a b v != 0) = true := by simp [hop]
        clear hop
        go_wp2_with (go_at_call 49; (with_reducible refine (checkStep_any _ _ _ _ _ _ _ _).mono ?_); rintro e w1 ⟨rfl, hb1⟩)
        go_ret
        exact ⟨ret_int (by rw [HR.out, HD.out]; exact ckStepsF_stop rfl HO.out), (by go_grown : Below w.heap.size w _).trans (hb1.mono (by go_size))⟩
    · go_wp2
      go_ret
      exact ⟨ret_int (by rw [HR.out, List.drop_of_length_le (by rw [HL.out]; omega)]; rfl), hb⟩

set_option maxHeartbeats 1000000 in
theorem stepCheck_any (vars regs o t a b v : Int) (w : World) :
    Calls Try.prog 45 #[.int .i64 vars, .int .i64 regs, .agg #[.int .i64 o, .int .i64 t, .int .i64 a, .int .i64 b, .int .i64 v]] w fun e w' => e = .returned (.int .i64 (ckStep vars regs o t a b v)) ∧ Below w.heap.size w w' := by
  go_enter Try.func45, Try.ntmps45
  go_wp2_with (first
    | (go_at_call 51; (with_reducible refine (refValue_any _ _).mono ?_); rintro e w1 ⟨rfl, rfl⟩)
    | (go_at_call 27; (with_reducible refine (inside1_any _ v _ _ _ ?_).mono ?_); (· (exact cell_new (by simp) rfl)); rintro e w1 ⟨rfl, rfl⟩)
    | (go_at_call 27; (with_reducible refine (inside1_any _ t _ _ _ ?_).mono ?_); (· (exact cell_new (by simp) rfl)); rintro e w1 ⟨rfl, rfl⟩)
    | (go_at_call 27; (with_reducible refine (inside2_any _ a b _ _ _ ?_ ?_).mono ?_); (· (exact cell_new (by simp) rfl)); (· (exact cell_new (by simp) rfl)); rintro e w1 ⟨rfl, rfl⟩))
  all_goals
    go_ret
    refine ⟨ret_int ?_, by go_grown⟩
    (go_light; (try simp only [Bool.not_eq_true', Bool.not_eq_false', decide_eq_true_eq, decide_eq_false_iff_not, beq_iff_eq, beq_eq_false_iff_ne, bne_iff_ne, bne_eq_false_iff_eq, ne_eq, Bool.and_eq_true, Bool.or_eq_true, Bool.and_eq_false_iff, Bool.or_eq_false_iff, Decidable.not_not] at *))
    unfold ckStep
    (repeat' split) <;> omega

set_option maxHeartbeats 1000000 in
theorem stepsCheck_any (vars regs : Int) (A : Option Addr) (len cap : Nat) (l : List St) (w : World) (hx : RdS w w.heap.size A l) (hl : l.length = len) :
    Calls Try.prog 33 #[.int .i64 vars, .slice A len cap, .int .i64 regs] w fun e w' => e = .returned (.int .i64 (ckSteps vars l regs)) ∧ Below w.heap.size w w' := by
  by_cases hbad : vars < 0 ∨ 6 < vars ∨ 40 < len ∨ regs < 1 ∨ 8 < regs
  · have hf : ckSteps vars l regs = 1 := by unfold ckSteps; rw [hl, if_pos hbad]
    rw [hf]
    clear hf hx hl
    go_enter Try.func33, Try.ntmps33
    go_wp2
    all_goals first
      | (go_ret; exact ⟨rfl, by go_grown⟩)
      | (exfalso; simp_all; omega)
  · have hf : ckSteps vars l regs = ckStepsF vars regs l := by unfold ckSteps; rw [hl, if_neg hbad]
    rw [hf]
    clear hf
    have h1 : 0 ≤ vars := by omega
    have h2 : vars ≤ 6 := by omega
    have h3 : len ≤ 40 := by omega
    have h4 : 1 ≤ regs := by omega
    have h5 : regs ≤ 8 := by omega
    clear hbad
    have HL := Lib.hid hl
    clear hl
    go_enter Try.func33, Try.ntmps33
    go_wp2
    go_loopw [31] (fun i wr => ∃ k : Nat, k ≤ len ∧ i = .int .i64 k ∧ ckStepsF vars regs l = ckStepsF vars regs (l.drop k) ∧ Below w.heap.size w wr) (fun i _ => len - (intOf i).toNat)
    case atStart => exact ⟨0, Nat.zero_le _, rfl, rfl, Below.refl _ _⟩
    case round =>
      obtain ⟨k, hk, rfl, hr, hb⟩ := hrel
      have HR := Lib.hid hr
      clear hr
      by_cases hlt : k < len
      · obtain ⟨ad, o, t, a, b, v, rfl, hbl, hd, hc0, hc1, hc2, hc3, hc4⟩ := (hx.below hb (Nat.le_refl _)).at_ (k := k) (by rw [HL.out]; exact hlt)
        have HD := Lib.hid (drop_at hd)
        clear hd
        have hsz := hb.size
        by_cases hop : ckStep vars regs o t a b v = 0
        · have HO := Lib.hid hop
          have e1 : (ckStep vars regs o t a b v != 0) = false := by simp [hop]
          clear hop
          go_wp2_with (go_at_call 45; (with_reducible refine (stepCheck_any _ _ _ _ _ _ _ _).mono ?_); rintro e w1 ⟨rfl, hb1⟩)
          go_round
          case rel => exact ⟨k + 1, by omega, by go_num, by rw [HR.out, HD.out]; exact ckStepsF_go HO.out, (by go_grown : Below w.heap.size w _).trans (hb1.mono (by go_size))⟩
          case measure => simp [intOf]; omega
        · have HO := Lib.hid hop
          have e1 : (ckStep vars regs o t a b v != 0) = true := by simp [hop]
          clear hop
          go_wp2_with (go_at_call 45; (with_reducible refine (stepCheck_any _ _ _ _ _ _ _ _).mono ?_); rintro e w1 ⟨rfl, hb1⟩)
          go_ret
          exact ⟨ret_int (by rw [HR.out, HD.out]; exact ckStepsF_stop rfl HO.out), (by go_grown : Below w.heap.size w _).trans (hb1.mono (by go_size))⟩
      · go_wp2
        go_ret
        exact ⟨ret_int (by rw [HR.out, List.drop_of_length_le (by rw [HL.out]; omega)]; rfl), hb⟩

end Go.Proofs.Ytfbpalgeajgbhaa
