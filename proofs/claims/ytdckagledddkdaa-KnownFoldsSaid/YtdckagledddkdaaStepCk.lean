/-
  need.CheckStep, need.StepValue: one step of register code (B1, J1).
-/
import Derived.Test.YtdckagledddkdaaMPure
import Derived.Test.YtdckagledddkdaaMBase
import Derived.Test.YtdckagledddkdaaTermCk
import Derived.Test.YtdckagledddkdaaApply
namespace Go.Proofs.Ytdckagledddkdaa
open Go.RowKit
set_option linter.unusedSimpArgs false
set_option linter.unusedVariables false
set_option maxRecDepth 100000

theorem ckStep_bad {vars regs o t a b v : Int} (h : ckOpn vars o v ≠ 0) : ckStep vars regs o t a b v = ckOpn vars o v := by
  unfold ckStep
  unfold ckOpn at h ⊢
  (repeat' split at h) <;> (repeat' split) <;> omega

set_option maxHeartbeats 4000000 in
theorem checkStep_any (vars regs o t a b v : Int) (w : World) :
    Calls Try.prog 45 #[.int .i64 vars, .int .i64 regs, .agg #[.int .i64 o, .int .i64 t, .int .i64 a, .int .i64 b, .int .i64 v]] w fun e w' => e = .returned (.int .i64 (ckStep vars regs o t a b v)) ∧ Below w.heap.size w w' := by
  by_cases hop : ckOpn vars o v = 0
  · have HO := Lib.hid hop
    have ho : 1 ≤ o ∧ o ≤ 6 := ckOpn_op hop
    have e1 : (ckOpn vars o v != 0) = false := by simp [hop]
    clear hop
    go_enter Try.func45, Try.ntmps45
    go_wp2_with fail
    (with_reducible refine (checkOp_any vars o v _).mono ?_)
    rintro e w1 ⟨rfl, hb1⟩
    have hbx : w1.cell? ⟨w.heap.size, 0, none⟩ = some (.int .i64 regs) := (hb1.cell (p := ⟨w.heap.size, 0, none⟩) (by simp; omega)).trans (by simp)
    have d0 : w1.cell? ⟨w.heap.size + 1, 0, none⟩ = some (.int .i64 o) := (hb1.cell (p := ⟨w.heap.size + 1, 0, none⟩) (by simp)).trans (by simp)
    have d1 : w1.cell? ⟨w.heap.size + 1, 1, none⟩ = some (.int .i64 t) := (hb1.cell (p := ⟨w.heap.size + 1, 1, none⟩) (by simp)).trans (by simp)
    have d2 : w1.cell? ⟨w.heap.size + 1, 2, none⟩ = some (.int .i64 a) := (hb1.cell (p := ⟨w.heap.size + 1, 2, none⟩) (by simp)).trans (by simp)
    have d3 : w1.cell? ⟨w.heap.size + 1, 3, none⟩ = some (.int .i64 b) := (hb1.cell (p := ⟨w.heap.size + 1, 3, none⟩) (by simp)).trans (by simp)
    have hB : Below w.heap.size w w1 := (by go_grown : Below w.heap.size w _).trans (hb1.mono (by simp; omega))
    have hsz : w.heap.size + 1 < w1.heap.size := by have := hb1.size; simp at this; omega
    clear hb1
    go_wp2
    all_goals
      go_ret
      refine ⟨ret_int ?_, by go_grown⟩
      have := HO.out
      (go_light; (try simp only [Bool.not_eq_true', Bool.not_eq_false', decide_eq_true_eq, decide_eq_false_iff_not, beq_iff_eq, beq_eq_false_iff_ne, bne_iff_ne, bne_eq_false_iff_eq, ne_eq, Bool.and_eq_true, Bool.or_eq_true, Bool.and_eq_false_iff, Bool.or_eq_false_iff, Decidable.not_not] at *))
      unfold ckStep
      unfold ckOpn at this
      (repeat' split at this) <;> (repeat' split) <;> omega
  · have HO := Lib.hid (ckStep_bad (regs := regs) (t := t) (a := a) (b := b) hop)
    have e1 : (ckOpn vars o v != 0) = true := by simp [hop]
    clear hop
    go_enter Try.func45, Try.ntmps45
    go_wp2_with (go_at_call 53; (with_reducible refine (checkOp_any vars o v _).mono ?_); rintro e w1 ⟨rfl, hb1⟩)
    go_ret
    exact ⟨ret_int HO.out.symm, ((by go_grown : Below w.heap.size w _).trans (hb1.mono (by simp; omega)))⟩

theorem stval_num {hv r : List Int} {t a b v : Int} : v = stV hv ⟨1, t, a, b, v⟩ r := by simp [stV]

theorem stval_var {hv r : List Int} {t a b x : Int} {v : Nat} (h : hv[v]? = some x) : x = stV hv ⟨2, t, a, b, v⟩ r := by simp [stV, h]

theorem stval_op {hv r : List Int} {o t v x y : Int} {a b : Nat} (ho : 3 ≤ o) (hx : r[a]? = some x) (hy : r[b]? = some y) : opv o x y = stV hv ⟨o, t, a, b, v⟩ r := by
  have h1 : ¬ o = 1 := by omega
  have h2 : ¬ o = 2 := by omega
  simp [stV, h1, h2, hx, hy]

set_option maxHeartbeats 4000000 in
theorem stepValue_any (VA HA : Option Addr) (rn vc hn hc : Nat) (o t a b v : Int) (r hv : List Int) (w : World) (hr : RdI w w.heap.size VA r) (hh : RdI w w.heap.size HA hv) (hrl : r.length = rn) (hhl : hv.length = hn)
    (hck : ckStep hn rn o t a b v = 0) (hrb : ∀ (j : Nat) (x : Int), r[j]? = some x → 0 ≤ x ∧ x ≤ 255) :
    Calls Try.prog 35 #[.agg #[.int .i64 o, .int .i64 t, .int .i64 a, .int .i64 b, .int .i64 v], .slice VA rn vc, .slice HA hn hc] w fun e w' => e = .returned (.tuple #[.int .i64 (stV hv ⟨o, t, a, b, v⟩ r), .int .i64 0]) ∧ Below w.heap.size w w' := by
  have HK := Lib.hid hck
  have hcase := ckStep_cases hck
  have HRL := Lib.hid hrl
  have HHL := Lib.hid hhl
  have HRB := Lib.hid hrb
  have HR := Lib.hid hr
  have HH := Lib.hid hh
  clear hck hrl hhl hrb hr hh
  go_enter Try.func35, Try.ntmps35
  go_wp2_with fail
  (with_reducible refine (checkStep_any hn rn o t a b v _).mono ?_)
  rintro e w1 ⟨rfl, hb1⟩
  rw [HK.out]
  have d0 : w1.cell? ⟨w.heap.size, 0, none⟩ = some (.int .i64 o) := (hb1.cell (p := ⟨w.heap.size, 0, none⟩) (by simp)).trans (by simp)
  have d2 : w1.cell? ⟨w.heap.size, 2, none⟩ = some (.int .i64 a) := (hb1.cell (p := ⟨w.heap.size, 2, none⟩) (by simp)).trans (by simp)
  have d3 : w1.cell? ⟨w.heap.size, 3, none⟩ = some (.int .i64 b) := (hb1.cell (p := ⟨w.heap.size, 3, none⟩) (by simp)).trans (by simp)
  have d4 : w1.cell? ⟨w.heap.size, 4, none⟩ = some (.int .i64 v) := (hb1.cell (p := ⟨w.heap.size, 4, none⟩) (by simp)).trans (by simp)
  have hB : Below w.heap.size w w1 := (by go_grown : Below w.heap.size w _).trans (hb1.mono (by simp))
  have hsz : w.heap.size < w1.heap.size := by have := hb1.size; simp at this; omega
  clear hb1
  obtain ⟨⟨ht0, ht1⟩, hcase⟩ := hcase
  rcases hcase with ⟨rfl, hv0, hv1⟩ | ⟨rfl, hv0, hv1⟩ | ⟨ho0, ho1, ha0, ha1, hb0, hb1⟩
  · go_wp2
    go_ret2
    rw [← stval_num]
    exact ⟨rfl, hB⟩
  · obtain ⟨vn, rfl⟩ := Int.eq_ofNat_of_zero_le hv0
    obtain ⟨ad, x, rfl, hbl, hx, hcx⟩ := ((HH.out.below hB (Nat.le_refl _)).more (Nat.le_of_lt hsz)).at_ (k := vn) (by rw [HHL.out]; omega)
    have HX := Lib.hid hx
    clear hx
    go_wp2
    go_ret2
    rw [← stval_var HX.out]
    exact ⟨rfl, hB⟩
  · obtain ⟨an, rfl⟩ := Int.eq_ofNat_of_zero_le ha0
    obtain ⟨bn, rfl⟩ := Int.eq_ofNat_of_zero_le hb0
    have han : an < rn := by omega
    have hbn : bn < rn := by omega
    obtain ⟨ad, x, rfl, hbl, hx, hcx⟩ := ((HR.out.below hB (Nat.le_refl _)).more (Nat.le_of_lt hsz)).at_ (k := an) (by rw [HRL.out]; omega)
    obtain ⟨ad2, y, e2, hbl2, hy, hcy⟩ := ((HR.out.below hB (Nat.le_refl _)).more (Nat.le_of_lt hsz)).at_ (k := bn) (by rw [HRL.out]; omega)
    injection e2 with e2
    subst e2
    have hxb := HRB.out _ _ hx
    have hyb := HRB.out _ _ hy
    have HX := Lib.hid hx
    have HY := Lib.hid hy
    clear hx hy
    go_wp2
    (refine still_tail 13 (by kernel_rfl) (by kernel_rfl) ?_; simp only [List.take_succ_cons, List.take_zero, List.drop_succ_cons, List.drop_zero]; repeat still_step)
    still_call ((apply_any _ _ _ _ (by omega) (by omega) (by omega) (by omega)).mono fun _ _ h => ⟨h.1, h.2.symm⟩)
    ((repeat still_step); refine wpStill_nil ?_)
    go_wp2
    go_ret2
    rw [← stval_op ho0 HX.out HY.out]
    exact ⟨rfl, by go_grown⟩

end Go.Proofs.Ytdckagledddkdaa
