/-
  term.apply and codemasonref.Op compute A1's operations; term.checkHave and codemasonref.HaveCheck give A2's code of values.
-/
import Derived.Test.YtdckagledddkdaaMBase
namespace Go.Proofs.Ytdckagledddkdaa
open Go.RowKit
set_option linter.unusedSimpArgs false
set_option linter.unusedVariables false
set_option maxRecDepth 100000

set_option maxHeartbeats 1000000 in
theorem apply_any (op a b : Int) (w : World) (ha : 0 ≤ a) (ha' : a ≤ 255) (hb : 0 ≤ b) (hb' : b ≤ 255) :
    Calls Try.prog 46 #[.int .i64 op, .int .i64 a, .int .i64 b] w fun e w' => e = .returned (.int .i64 (opv op a b)) ∧ w = w' := by
  have hm : 0 ≤ a * b := Int.mul_nonneg ha hb
  have hm' : a * b ≤ 65025 := Int.le_trans (Int.mul_le_mul_of_nonneg_left hb' ha) (by omega)
  go_enter Try.func46, Try.ntmps46
  go_wp2
  all_goals (go_ret; refine ⟨ret_int ?_, rfl⟩; go_light; simp only [beq_iff_eq, beq_eq_false_iff_ne, ne_eq] at *; unfold opv; simp [*]; try omega)

set_option maxHeartbeats 1000000 in
theorem refOp_any (op a b : Int) (w : World) (ha : 0 ≤ a) (ha' : a ≤ 255) (hb : 0 ≤ b) (hb' : b ≤ 255) (ho : 3 ≤ op) (ho' : op ≤ 6) :
    Calls Try.prog 36 #[.int .i64 op, .int .i64 a, .int .i64 b] w fun e w' => e = .returned (.int .i64 (opv op a b)) ∧ w = w' := by
  have hm : 0 ≤ a * b := Int.mul_nonneg ha hb
  have hm' : a * b ≤ 65025 := Int.le_trans (Int.mul_le_mul_of_nonneg_left hb' ha) (by omega)
  go_enter Try.func36, Try.ntmps36
  go_wp2
  all_goals (go_ret; refine ⟨ret_int ?_, rfl⟩; go_light; simp only [beq_iff_eq, beq_eq_false_iff_ne, ne_eq] at *; unfold opv; simp [*]; try omega)

set_option maxHeartbeats 1000000 in
theorem checkHave_any (vars : Int) (A : Option Addr) (len cap : Nat) (xs : List Int) (w : World) (hx : RdI w w.heap.size A xs) (hl : xs.length = len) (hm : len ≤ maxLen) :
    Calls Try.prog 32 #[.int .i64 vars, .slice A len cap] w fun e w' => e = .returned (.int .i64 (ckHave vars xs)) ∧ Below w.heap.size w w' := by
  unfold maxLen at hm
  by_cases hbad : (len : Int) = vars
  · have hf : ckHave vars xs = ckVals xs := by unfold ckHave; rw [hl, if_neg (by simp [hbad])]
    rw [hf]
    clear hf
    have hne : ((len : Int) != vars) = false := by simp [hbad]
    have HL := Lib.hid hl
    clear hl hbad
    go_enter Try.func32, Try.ntmps32
    go_wp2
    go_loopw [15] (fun i wr => ∃ k : Nat, k ≤ len ∧ i = .int .i64 k ∧ ckVals xs = ckVals (xs.drop k) ∧ Below w.heap.size w wr ∧ wr.cell? ⟨w.heap.size, 0, none⟩ = some (.int .i64 256)) (fun i _ => len - (intOf i).toNat)
    case atStart => exact ⟨0, Nat.zero_le _, rfl, rfl, by go_grown, by simp⟩
    case round =>
      obtain ⟨k, hk, rfl, hr, hb, hbox⟩ := hrel
      have HR := Lib.hid hr
      clear hr
      by_cases hlt : k < len
      · obtain ⟨ad, x, rfl, hbl, hd, hcell⟩ := (hx.below hb (Nat.le_refl _)).at_ (k := k) (by rw [HL.out]; exact hlt)
        have HD := Lib.hid (drop_at hd)
        clear hd
        go_wp2
        all_goals first
          | (go_ret; refine ⟨ret_int ?_, hb⟩; rw [HR.out, HD.out, okVals_no]; (go_light; (try simp only [Bool.not_eq_true', Bool.not_eq_false', decide_eq_true_eq, decide_eq_false_iff_not, beq_iff_eq, beq_eq_false_iff_ne, bne_iff_ne, bne_eq_false_iff_eq, ne_eq, Bool.and_eq_true, Bool.or_eq_true, Bool.and_eq_false_iff, Bool.or_eq_false_iff, Decidable.not_not] at *)); omega)
          | (go_round
             case rel => exact ⟨k + 1, by omega, by go_num, by rw [HR.out, HD.out, okVals_go]; all_goals ((go_light; (try simp only [Bool.not_eq_true', Bool.not_eq_false', decide_eq_true_eq, decide_eq_false_iff_not, beq_iff_eq, beq_eq_false_iff_ne, bne_iff_ne, bne_eq_false_iff_eq, ne_eq, Bool.and_eq_true, Bool.or_eq_true, Bool.and_eq_false_iff, Bool.or_eq_false_iff, Decidable.not_not] at *)); omega), hb, hbox⟩
             case measure => simp [intOf]; omega)
      · go_wp2
        go_ret
        exact ⟨ret_int (by rw [HR.out, List.drop_of_length_le (by rw [HL.out]; omega)]; rfl), hb⟩
  · have hf : ckHave vars xs = 3 := by unfold ckHave; rw [hl, if_pos hbad]
    rw [hf]
    have hne : ((len : Int) != vars) = true := by simp [hbad]
    clear hf hx hl hbad
    go_enter Try.func32, Try.ntmps32
    go_wp2
    go_ret
    exact ⟨rfl, by go_grown⟩

set_option maxHeartbeats 1000000 in
theorem haveCheck_any (vars : Int) (A : Option Addr) (len cap : Nat) (xs : List Int) (B : Nat) (w : World) (hx : RdI w B A xs) (hl : xs.length = len) (hm : len ≤ maxLen) :
    Calls Try.prog 41 #[.int .i64 vars, .slice A len cap] w fun e w' => e = .returned (.int .i64 (ckHave vars xs)) ∧ w = w' := by
  unfold maxLen at hm
  by_cases hbad : (len : Int) = vars
  · have hf : ckHave vars xs = ckVals xs := by unfold ckHave; rw [hl, if_neg (by simp [hbad])]
    rw [hf]
    clear hf
    have hne : ((len : Int) != vars) = false := by simp [hbad]
    have HL := Lib.hid hl
    clear hl hbad
    go_enter Try.func41, Try.ntmps41
    go_wp2
    go_loop [13] (fun i => ∃ k : Nat, k ≤ len ∧ i = .int .i64 k ∧ ckVals xs = ckVals (xs.drop k)) (fun i => len - (intOf i).toNat)
    case atStart => exact ⟨0, Nat.zero_le _, rfl, rfl⟩
    case round =>
      obtain ⟨k, hk, rfl, hr⟩ := hrel
      have HR := Lib.hid hr
      clear hr
      by_cases hlt : k < len
      · obtain ⟨ad, x, rfl, hbl, hd, hcell⟩ := hx.at_ (k := k) (by rw [HL.out]; exact hlt)
        have HD := Lib.hid (drop_at hd)
        clear hd
        go_wp2_with (go_at_call 29; (with_reducible refine (refValue_any _ _).mono ?_); rintro e w1 ⟨rfl, rfl⟩)
        all_goals first
          | (go_ret; refine ⟨ret_int ?_, rfl⟩; rw [HR.out, HD.out, okVals_no]; (go_light; (try simp only [Bool.not_eq_true', Bool.not_eq_false', decide_eq_true_eq, decide_eq_false_iff_not, beq_iff_eq, beq_eq_false_iff_ne, bne_iff_ne, bne_eq_false_iff_eq, ne_eq, Bool.and_eq_true, Bool.or_eq_true, Bool.and_eq_false_iff, Bool.or_eq_false_iff, Decidable.not_not] at *)); omega)
          | (go_round
             case rel => exact ⟨k + 1, by omega, by go_num, by rw [HR.out, HD.out, okVals_go]; all_goals ((go_light; (try simp only [Bool.not_eq_true', Bool.not_eq_false', decide_eq_true_eq, decide_eq_false_iff_not, beq_iff_eq, beq_eq_false_iff_ne, bne_iff_ne, bne_eq_false_iff_eq, ne_eq, Bool.and_eq_true, Bool.or_eq_true, Bool.and_eq_false_iff, Bool.or_eq_false_iff, Decidable.not_not] at *)); omega)⟩
             case measure => simp [intOf]; omega)
      · go_wp2
        go_ret
        exact ⟨ret_int (by rw [HR.out, List.drop_of_length_le (by rw [HL.out]; omega)]; rfl), rfl⟩
  · have hf : ckHave vars xs = 3 := by unfold ckHave; rw [hl, if_pos hbad]
    rw [hf]
    have hne : ((len : Int) != vars) = true := by simp [hbad]
    clear hf hx hl hbad
    go_enter Try.func41, Try.ntmps41
    go_wp2
    go_ret
    exact ⟨rfl, rfl⟩

end Go.Proofs.Ytdckagledddkdaa
