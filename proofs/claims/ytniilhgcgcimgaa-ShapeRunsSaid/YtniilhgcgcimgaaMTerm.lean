/-
  Several texts in one: TermCk, TermCheck, Apply, StepCk, Steps.
-/
import Derived.Test.YtniilhgcgcimgaaMBase
import Derived.Test.YtniilhgcgcimgaaMPure

/-
  The checks of terms: term.CheckOperation, term.checkTerm return what A1 says.
-/

namespace Go.Proofs.Ytniilhgcgcimgaa
open Go.RowKit
set_option linter.unusedSimpArgs false
set_option linter.unusedVariables false
set_option maxRecDepth 100000

/-- what A1, B1 and C1 say of an operation and its number -/
def ckOpn (vars op v : Int) : Int := if op < 1 ∨ 6 < op then 6 else if (op = 1 ∧ ¬ (0 ≤ v ∧ v ≤ 255)) ∨ (op = 2 ∧ ¬ (0 ≤ v ∧ v < vars)) then 4 else 0

set_option maxHeartbeats 4000000 in
theorem checkOp_any (vars op v : Int) (w : World) :
    Calls Try.prog 54 #[.int .i64 vars, .int .i64 op, .int .i64 v] w fun e w' => e = .returned (.int .i64 (ckOpn vars op v)) ∧ Below w.heap.size w w' := by
  go_enter Try.func54, Try.ntmps54
  go_wp2
  all_goals
    go_returns
    refine ⟨ret_int ?_, by go_grown⟩
    go_light
    simp only [beq_iff_eq, beq_eq_false_iff_ne, Bool.not_eq_true', Bool.not_eq_false', decide_eq_true_eq, decide_eq_false_iff_not, ne_eq] at *
    unfold ckOpn
    (repeat' split) <;> omega

theorem ckTerm_bad {vars before op a b v : Int} (h : ckOpn vars op v ≠ 0) : ckTerm vars before op a b v = ckOpn vars op v := by
  unfold ckTerm
  unfold ckOpn at h ⊢
  (repeat' split) <;> simp_all <;> omega

theorem ckTerm_ok {vars before op a b v : Int} (h : ckOpn vars op v = 0) : ckTerm vars before op a b v = if 3 ≤ op ∧ ¬ (0 ≤ a ∧ a < before ∧ 0 ≤ b ∧ b < before) then 2 else 0 := by
  unfold ckTerm
  unfold ckOpn at h
  (repeat' split) <;> (repeat' split at h) <;> omega

theorem ckOpn_op {vars op v : Int} (h : ckOpn vars op v = 0) : 1 ≤ op ∧ op ≤ 6 := by
  unfold ckOpn at h
  (repeat' split at h) <;> omega

end Go.Proofs.Ytniilhgcgcimgaa

/-
  term.Check and codemasonref.TermsCheck return the code that A1 gives.
-/

namespace Go.Proofs.Ytniilhgcgcimgaa
open Go.RowKit
set_option linter.unusedSimpArgs false
set_option linter.unusedVariables false
set_option maxRecDepth 100000

end Go.Proofs.Ytniilhgcgcimgaa

/-
  term.apply and codemasonref.Op compute A1's operations; term.checkHave and codemasonref.HaveCheck give A2's code of values.
-/

namespace Go.Proofs.Ytniilhgcgcimgaa
open Go.RowKit
set_option linter.unusedSimpArgs false
set_option linter.unusedVariables false
set_option maxRecDepth 100000

set_option maxHeartbeats 1000000 in
theorem apply_any (op a b : Int) (w : World) (ha : 0 ≤ a) (ha' : a ≤ 255) (hb : 0 ≤ b) (hb' : b ≤ 255) :
    Calls Try.prog 44 #[.int .i64 op, .int .i64 a, .int .i64 b] w fun e w' => e = .returned (.int .i64 (opv op a b)) ∧ w = w' := by
  have hm : 0 ≤ a * b := Int.mul_nonneg ha hb
  have hm' : a * b ≤ 65025 := Int.le_trans (Int.mul_le_mul_of_nonneg_left hb' ha) (by omega)
  go_enter Try.func44, Try.ntmps44
  go_wp2
  all_goals (go_ret; refine ⟨ret_int ?_, rfl⟩; go_light; simp only [beq_iff_eq, beq_eq_false_iff_ne, ne_eq] at *; unfold opv; simp [*]; try omega)

set_option maxHeartbeats 1000000 in
theorem refOp_any (op a b : Int) (w : World) (ha : 0 ≤ a) (ha' : a ≤ 255) (hb : 0 ≤ b) (hb' : b ≤ 255) (ho : 3 ≤ op) (ho' : op ≤ 6) :
    Calls Try.prog 37 #[.int .i64 op, .int .i64 a, .int .i64 b] w fun e w' => e = .returned (.int .i64 (opv op a b)) ∧ w = w' := by
  have hm : 0 ≤ a * b := Int.mul_nonneg ha hb
  have hm' : a * b ≤ 65025 := Int.le_trans (Int.mul_le_mul_of_nonneg_left hb' ha) (by omega)
  go_enter Try.func37, Try.ntmps37
  go_wp2
  all_goals (go_ret; refine ⟨ret_int ?_, rfl⟩; go_light; simp only [beq_iff_eq, beq_eq_false_iff_ne, ne_eq] at *; unfold opv; simp [*]; try omega)

set_option maxHeartbeats 1000000 in
theorem checkHave_any (vars : Int) (A : Option Addr) (len cap : Nat) (xs : List Int) (w : World) (hx : RdI w w.heap.size A xs) (hl : xs.length = len) (hm : len ≤ maxLen) :
    Calls Try.prog 22 #[.int .i64 vars, .slice A len cap] w fun e w' => e = .returned (.int .i64 (ckHave vars xs)) ∧ Below w.heap.size w w' := by
  unfold maxLen at hm
  by_cases hbad : (len : Int) = vars
  · have hf : ckHave vars xs = ckVals xs := by unfold ckHave; rw [hl, if_neg (by simp [hbad])]
    rw [hf]
    clear hf
    have hne : ((len : Int) != vars) = false := by simp [hbad]
    have HL := Lib.hid hl
    clear hl hbad
    go_enter Try.func22, Try.ntmps22
    go_wp2
    go_loopw [15] (fun i wr => ∃ k : Nat, k ≤ len ∧ i = .int .i64 k ∧ ckVals xs = ckVals (xs.drop k) ∧ Below w.heap.size w wr ∧ wr.cell? ⟨w.heap.size, 0, none⟩ = some (.int .i64 256)) (fun i _ => len - (intOf i).toNat)
    case atStart => exact ⟨0, Nat.zero_le _, rfl, rfl, by go_grown, by simp⟩
    case round =>
      obtain ⟨k, hk, rfl, hr, hb, hbox⟩ := hrel
      have HR := Lib.hid hr
      clear hr
      by_cases hlt : k < len
      · obtain ⟨ad, x, rfl, hbl, hd, hcell⟩ := (hx.below hb (Nat.le_refl _)).at_ (k := k) (by rw [HL.out]; exact hlt)
        have HD := Lib.hid (drop_at hd)
        clear hd
        go_wp2
        all_goals first
          | (go_ret; refine ⟨ret_int ?_, hb⟩; rw [HR.out, HD.out, okVals_no]; (go_light; (try simp only [Bool.not_eq_true', Bool.not_eq_false', decide_eq_true_eq, decide_eq_false_iff_not, beq_iff_eq, beq_eq_false_iff_ne, bne_iff_ne, bne_eq_false_iff_eq, ne_eq, Bool.and_eq_true, Bool.or_eq_true, Bool.and_eq_false_iff, Bool.or_eq_false_iff, Decidable.not_not] at *)); omega)
          | (go_round
             case rel => exact ⟨k + 1, by omega, by go_num, by rw [HR.out, HD.out, okVals_go]; all_goals ((go_light; (try simp only [Bool.not_eq_true', Bool.not_eq_false', decide_eq_true_eq, decide_eq_false_iff_not, beq_iff_eq, beq_eq_false_iff_ne, bne_iff_ne, bne_eq_false_iff_eq, ne_eq, Bool.and_eq_true, Bool.or_eq_true, Bool.and_eq_false_iff, Bool.or_eq_false_iff, Decidable.not_not] at *)); omega), hb, hbox⟩
             case measure => simp [intOf]; omega)
      · go_wp2
        go_ret
        exact ⟨ret_int (by rw [HR.out, List.drop_of_length_le (by rw [HL.out]; omega)]; rfl), hb⟩
  · have hf : ckHave vars xs = 3 := by unfold ckHave; rw [hl, if_pos hbad]
    rw [hf]
    have hne : ((len : Int) != vars) = true := by simp [hbad]
    clear hf hx hl hbad
    go_enter Try.func22, Try.ntmps22
    go_wp2
    go_ret
    exact ⟨rfl, by go_grown⟩

set_option maxHeartbeats 1000000 in
theorem haveCheck_any (vars : Int) (A : Option Addr) (len cap : Nat) (xs : List Int) (B : Nat) (w : World) (hx : RdI w B A xs) (hl : xs.length = len) (hm : len ≤ maxLen) :
    Calls Try.prog 10 #[.int .i64 vars, .slice A len cap] w fun e w' => e = .returned (.int .i64 (ckHave vars xs)) ∧ w = w' := by
  unfold maxLen at hm
  by_cases hbad : (len : Int) = vars
  · have hf : ckHave vars xs = ckVals xs := by unfold ckHave; rw [hl, if_neg (by simp [hbad])]
    rw [hf]
    clear hf
    have hne : ((len : Int) != vars) = false := by simp [hbad]
    have HL := Lib.hid hl
    clear hl hbad
    go_enter Try.func10, Try.ntmps10
    go_wp2
    go_loop [13] (fun i => ∃ k : Nat, k ≤ len ∧ i = .int .i64 k ∧ ckVals xs = ckVals (xs.drop k)) (fun i => len - (intOf i).toNat)
    case atStart => exact ⟨0, Nat.zero_le _, rfl, rfl⟩
    case round =>
      obtain ⟨k, hk, rfl, hr⟩ := hrel
      have HR := Lib.hid hr
      clear hr
      by_cases hlt : k < len
      · obtain ⟨ad, x, rfl, hbl, hd, hcell⟩ := hx.at_ (k := k) (by rw [HL.out]; exact hlt)
        have HD := Lib.hid (drop_at hd)
        clear hd
        go_wp2_with (go_at_call 25; (with_reducible refine (refValue_any _ _).mono ?_); rintro e w1 ⟨rfl, rfl⟩)
        all_goals first
          | (go_ret; refine ⟨ret_int ?_, rfl⟩; rw [HR.out, HD.out, okVals_no]; (go_light; (try simp only [Bool.not_eq_true', Bool.not_eq_false', decide_eq_true_eq, decide_eq_false_iff_not, beq_iff_eq, beq_eq_false_iff_ne, bne_iff_ne, bne_eq_false_iff_eq, ne_eq, Bool.and_eq_true, Bool.or_eq_true, Bool.and_eq_false_iff, Bool.or_eq_false_iff, Decidable.not_not] at *)); omega)
          | (go_round
             case rel => exact ⟨k + 1, by omega, by go_num, by rw [HR.out, HD.out, okVals_go]; all_goals ((go_light; (try simp only [Bool.not_eq_true', Bool.not_eq_false', decide_eq_true_eq, decide_eq_false_iff_not, beq_iff_eq, beq_eq_false_iff_ne, bne_iff_ne, bne_eq_false_iff_eq, ne_eq, Bool.and_eq_true, Bool.or_eq_true, Bool.and_eq_false_iff, Bool.or_eq_false_iff, Decidable.not_not] at *)); omega)⟩
             case measure => simp [intOf]; omega)
      · go_wp2
        go_ret
        exact ⟨ret_int (by rw [HR.out, List.drop_of_length_le (by rw [HL.out]; omega)]; rfl), rfl⟩
  · have hf : ckHave vars xs = 3 := by unfold ckHave; rw [hl, if_pos hbad]
    rw [hf]
    have hne : ((len : Int) != vars) = true := by simp [hbad]
    clear hf hx hl hbad
    go_enter Try.func10, Try.ntmps10
    go_wp2
    go_ret
    exact ⟨rfl, rfl⟩

end Go.Proofs.Ytniilhgcgcimgaa

/-
  need.CheckStep, need.StepValue: one step of register code (B1, J1).
-/

namespace Go.Proofs.Ytniilhgcgcimgaa
open Go.RowKit
set_option linter.unusedSimpArgs false
set_option linter.unusedVariables false
set_option maxRecDepth 100000

theorem ckStep_bad {vars regs o t a b v : Int} (h : ckOpn vars o v ≠ 0) : ckStep vars regs o t a b v = ckOpn vars o v := by
  unfold ckStep
  unfold ckOpn at h ⊢
  (repeat' split at h) <;> (repeat' split) <;> omega

set_option maxHeartbeats 4000000 in
theorem checkStep_any (vars regs o t a b v : Int) (w : World) :
    Calls Try.prog 43 #[.int .i64 vars, .int .i64 regs, .agg #[.int .i64 o, .int .i64 t, .int .i64 a, .int .i64 b, .int .i64 v]] w fun e w' => e = .returned (.int .i64 (ckStep vars regs o t a b v)) ∧ Below w.heap.size w w' := by
  by_cases hop : ckOpn vars o v = 0
  · have HO := Lib.hid hop
    have ho : 1 ≤ o ∧ o ≤ 6 := ckOpn_op hop
    have e1 : (ckOpn vars o v != 0) = false := by simp [hop]
    clear hop
    go_enter Try.func43, Try.ntmps43
    go_wp2_with fail
    (with_reducible refine (checkOp_any vars o v _).mono ?_)
    rintro e w1 ⟨rfl, hb1⟩
    have hbx : w1.cell? ⟨w.heap.size, 0, none⟩ = some (.int .i64 regs) := (hb1.cell (p := ⟨w.heap.size, 0, none⟩) (by simp; omega)).trans (by simp)
    have d0 : w1.cell? ⟨w.heap.size + 1, 0, none⟩ = some (.int .i64 o) := (hb1.cell (p := ⟨w.heap.size + 1, 0, none⟩) (by simp)).trans (by simp)
    have d1 : w1.cell? ⟨w.heap.size + 1, 1, none⟩ = some (.int .i64 t) := (hb1.cell (p := ⟨w.heap.size + 1, 1, none⟩) (by simp)).trans (by simp)
    have d2 : w1.cell? ⟨w.heap.size + 1, 2, none⟩ = some (.int .i64 a) := (hb1.cell (p := ⟨w.heap.size + 1, 2, none⟩) (by simp)).trans (by simp)
    have d3 : w1.cell? ⟨w.heap.size + 1, 3, none⟩ = some (.int .i64 b) := (hb1.cell (p := ⟨w.heap.size + 1, 3, none⟩) (by simp)).trans (by simp)
    have hB : Below w.heap.size w w1 := (by go_grown : Below w.heap.size w _).trans (hb1.mono (by simp; omega))
    have hsz : w.heap.size + 1 < w1.heap.size := by have := hb1.size; simp at this; omega
    clear hb1
    go_wp2
    all_goals
      go_ret
      refine ⟨ret_int ?_, by go_grown⟩
      have := HO.out
      (go_light; (try simp only [Bool.not_eq_true', Bool.not_eq_false', decide_eq_true_eq, decide_eq_false_iff_not, beq_iff_eq, beq_eq_false_iff_ne, bne_iff_ne, bne_eq_false_iff_eq, ne_eq, Bool.and_eq_true, Bool.or_eq_true, Bool.and_eq_false_iff, Bool.or_eq_false_iff, Decidable.not_not] at *))
      unfold ckStep
      unfold ckOpn at this
      (repeat' split at this) <;> (repeat' split) <;> omega
  · have HO := Lib.hid (ckStep_bad (regs := regs) (t := t) (a := a) (b := b) hop)
    have e1 : (ckOpn vars o v != 0) = true := by simp [hop]
    clear hop
    go_enter Try.func43, Try.ntmps43
    go_wp2_with (go_at_call 54; (with_reducible refine (checkOp_any vars o v _).mono ?_); rintro e w1 ⟨rfl, hb1⟩)
    go_ret
    exact ⟨ret_int HO.out.symm, ((by go_grown : Below w.heap.size w _).trans (hb1.mono (by simp; omega)))⟩

theorem stval_num {hv r : List Int} {t a b v : Int} : v = stV hv ⟨1, t, a, b, v⟩ r := by simp [stV]

theorem stval_var {hv r : List Int} {t a b x : Int} {v : Nat} (h : hv[v]? = some x) : x = stV hv ⟨2, t, a, b, v⟩ r := by simp [stV, h]

theorem stval_op {hv r : List Int} {o t v x y : Int} {a b : Nat} (ho : 3 ≤ o) (hx : r[a]? = some x) (hy : r[b]? = some y) : opv o x y = stV hv ⟨o, t, a, b, v⟩ r := by
  have h1 : ¬ o = 1 := by omega
  have h2 : ¬ o = 2 := by omega
  simp [stV, h1, h2, hx, hy]

set_option maxHeartbeats 4000000 in
theorem stepValue_any (VA HA : Option Addr) (rn vc hn hc : Nat) (o t a b v : Int) (r hv : List Int) (w : World) (hr : RdI w w.heap.size VA r) (hh : RdI w w.heap.size HA hv) (hrl : r.length = rn) (hhl : hv.length = hn)
    (hck : ckStep hn rn o t a b v = 0) (hrb : ∀ (j : Nat) (x : Int), r[j]? = some x → 0 ≤ x ∧ x ≤ 255) :
    Calls Try.prog 32 #[.agg #[.int .i64 o, .int .i64 t, .int .i64 a, .int .i64 b, .int .i64 v], .slice VA rn vc, .slice HA hn hc] w fun e w' => e = .returned (.tuple #[.int .i64 (stV hv ⟨o, t, a, b, v⟩ r), .int .i64 0]) ∧ Below w.heap.size w w' := by
  have HK := Lib.hid hck
  have hcase := ckStep_cases hck
  have HRL := Lib.hid hrl
  have HHL := Lib.hid hhl
  have HRB := Lib.hid hrb
  have HR := Lib.hid hr
  have HH := Lib.hid hh
  clear hck hrl hhl hrb hr hh
  go_enter Try.func32, Try.ntmps32
  go_wp2_with fail
  (with_reducible refine (checkStep_any hn rn o t a b v _).mono ?_)
  rintro e w1 ⟨rfl, hb1⟩
  rw [HK.out]
  have d0 : w1.cell? ⟨w.heap.size, 0, none⟩ = some (.int .i64 o) := (hb1.cell (p := ⟨w.heap.size, 0, none⟩) (by simp)).trans (by simp)
  have d2 : w1.cell? ⟨w.heap.size, 2, none⟩ = some (.int .i64 a) := (hb1.cell (p := ⟨w.heap.size, 2, none⟩) (by simp)).trans (by simp)
  have d3 : w1.cell? ⟨w.heap.size, 3, none⟩ = some (.int .i64 b) := (hb1.cell (p := ⟨w.heap.size, 3, none⟩) (by simp)).trans (by simp)
  have d4 : w1.cell? ⟨w.heap.size, 4, none⟩ = some (.int .i64 v) := (hb1.cell (p := ⟨w.heap.size, 4, none⟩) (by simp)).trans (by simp)
  have hB : Below w.heap.size w w1 := (by go_grown : Below w.heap.size w _).trans (hb1.mono (by simp))
  have hsz : w.heap.size < w1.heap.size := by have := hb1.size; simp at this; omega
  clear hb1
  obtain ⟨⟨ht0, ht1⟩, hcase⟩ := hcase
  rcases hcase with ⟨rfl, hv0, hv1⟩ | ⟨rfl, hv0, hv1⟩ | ⟨ho0, ho1, ha0, ha1, hb0, hb1⟩
  · go_wp2
    go_ret2
    rw [← stval_num]
    exact ⟨rfl, hB⟩
  · obtain ⟨vn, rfl⟩ := Int.eq_ofNat_of_zero_le hv0
    obtain ⟨ad, x, rfl, hbl, hx, hcx⟩ := ((HH.out.below hB (Nat.le_refl _)).more (Nat.le_of_lt hsz)).at_ (k := vn) (by rw [HHL.out]; omega)
    have HX := Lib.hid hx
    clear hx
    go_wp2
    go_ret2
    rw [← stval_var HX.out]
    exact ⟨rfl, hB⟩
  · obtain ⟨an, rfl⟩ := Int.eq_ofNat_of_zero_le ha0
    obtain ⟨bn, rfl⟩ := Int.eq_ofNat_of_zero_le hb0
    have han : an < rn := by omega
    have hbn : bn < rn := by omega
    obtain ⟨ad, x, rfl, hbl, hx, hcx⟩ := ((HR.out.below hB (Nat.le_refl _)).more (Nat.le_of_lt hsz)).at_ (k := an) (by rw [HRL.out]; omega)
    obtain ⟨ad2, y, e2, hbl2, hy, hcy⟩ := ((HR.out.below hB (Nat.le_refl _)).more (Nat.le_of_lt hsz)).at_ (k := bn) (by rw [HRL.out]; omega)
    injection e2 with e2
    subst e2
    have hxb := HRB.out _ _ hx
    have hyb := HRB.out _ _ hy
    have HX := Lib.hid hx
    have HY := Lib.hid hy
    clear hx hy
    go_wp2
    (refine still_tail 13 (by kernel_rfl) (by kernel_rfl) ?_; simp only [List.take_succ_cons, List.take_zero, List.drop_succ_cons, List.drop_zero]; repeat still_step)
    still_call ((apply_any _ _ _ _ (by omega) (by omega) (by omega) (by omega)).mono fun _ _ h => ⟨h.1, h.2.symm⟩)
    ((repeat still_step); refine wpStill_nil ?_)
    go_wp2
    go_ret2
    rw [← stval_op ho0 HX.out HY.out]
    exact ⟨rfl, by go_grown⟩

end Go.Proofs.Ytniilhgcgcimgaa

/-
  need.validCount, need.checkCode; codemasonref.StepCheck, StepsCheck: the code of register code (B1).
-/

namespace Go.Proofs.Ytniilhgcgcimgaa
open Go.RowKit
set_option linter.unusedSimpArgs false
set_option linter.unusedVariables false
set_option maxRecDepth 100000

set_option maxHeartbeats 1000000 in
theorem stepCheck_any (vars regs o t a b v : Int) (w : World) :
    Calls Try.prog 34 #[.int .i64 vars, .int .i64 regs, .agg #[.int .i64 o, .int .i64 t, .int .i64 a, .int .i64 b, .int .i64 v]] w fun e w' => e = .returned (.int .i64 (ckStep vars regs o t a b v)) ∧ Below w.heap.size w w' := by
  go_enter Try.func34, Try.ntmps34
  go_wp2_with (first
    | (go_at_call 25; (with_reducible refine (refValue_any _ _).mono ?_); rintro e w1 ⟨rfl, rfl⟩)
    | (go_at_call 15; (with_reducible refine (inside1_any _ v _ _ _ ?_).mono ?_); (· (exact cell_new (by simp) rfl)); rintro e w1 ⟨rfl, rfl⟩)
    | (go_at_call 15; (with_reducible refine (inside1_any _ t _ _ _ ?_).mono ?_); (· (exact cell_new (by simp) rfl)); rintro e w1 ⟨rfl, rfl⟩)
    | (go_at_call 15; (with_reducible refine (inside2_any _ a b _ _ _ ?_ ?_).mono ?_); (· (exact cell_new (by simp) rfl)); (· (exact cell_new (by simp) rfl)); rintro e w1 ⟨rfl, rfl⟩))
  all_goals
    go_ret
    refine ⟨ret_int ?_, by go_grown⟩
    (go_light; (try simp only [Bool.not_eq_true', Bool.not_eq_false', decide_eq_true_eq, decide_eq_false_iff_not, beq_iff_eq, beq_eq_false_iff_ne, bne_iff_ne, bne_eq_false_iff_eq, ne_eq, Bool.and_eq_true, Bool.or_eq_true, Bool.and_eq_false_iff, Bool.or_eq_false_iff, Decidable.not_not] at *))
    unfold ckStep
    (repeat' split) <;> omega

end Go.Proofs.Ytniilhgcgcimgaa
