/-
  need.Run returns the registers that B1 gives, or the first error, for all arguments: codemasonlaw.NeedRuns returns true and leaves its arguments alone. No condition.
-/
import Derived.Test.YtfbpalgeajgbhaaLawTree
import Derived.Test.YtfbpalgeajgbhaaRun
namespace Go.Proofs.Ytfbpalgeajgbhaa
open Go.RowKit Go.ChangeShapes Go.WideShapes Go.ChangeAt Go.Deep
set_option linter.unusedSimpArgs false
set_option linter.unusedVariables false
set_option maxRecDepth 100000

set_option maxHeartbeats 1000000 in
theorem runCode_any (vars regs : Int) (A HA : Option Addr) (len cap n hcap : Nat) (l : List St) (xs : List Int) (w : World) (hx : RdS w w.heap.size A l) (hh : RdI w w.heap.size HA xs) (hl : l.length = len) (hn : xs.length = n) (hhm : n ≤ maxLen) :
    Calls Try.prog 11 #[.int .i64 vars, .slice A len cap, .int .i64 regs, .slice HA n hcap] w fun e w' => e = .returned (.int .i64 (ckRun vars l regs xs)) ∧ Below w.heap.size w w' := by
  subst hn
  have HL := Lib.hid hl
  clear hl
  by_cases h1 : ckSteps vars l regs = 0
  · have HC := Lib.hid h1
    have e0 : ckRun vars l regs xs = ckHave vars xs := by unfold ckRun; rw [if_pos h1]
    rw [e0]
    clear h1 e0
    go_enter Try.func11, Try.ntmps11
    go_wp2_with fail
    refine (stepsCheck_any vars regs A len cap l _ hx HL.out).mono ?_
    rintro e w1 ⟨rfl, hb1⟩
    rw [HC.out]
    go_wp2_with fail
    refine (haveCheck_any vars HA _ hcap xs _ _ (hh.below hb1 (Nat.le_refl _)) rfl hhm).mono ?_
    rintro e w2 ⟨rfl, rfl⟩
    go_wp2_with fail
    go_ret
    exact ⟨rfl, hb1⟩
  · have e0 : ckRun vars l regs xs = ckSteps vars l regs := by unfold ckRun; rw [if_neg h1]
    rw [e0]
    have e1 : (ckSteps vars l regs == 0) = false := by simp [h1]
    clear h1 e0
    go_enter Try.func11, Try.ntmps11
    go_wp2_with fail
    refine (stepsCheck_any vars regs A len cap l _ hx HL.out).mono ?_
    rintro e w1 ⟨rfl, hb1⟩
    go_wp2_with fail
    go_ret
    exact ⟨rfl, hb1⟩

set_option maxHeartbeats 1000000 in
theorem lawNeedRuns_any (vars : Int) (A : Option Addr) (cap : Nat) (l : List St) (regs : Int) (HA : Option Addr) (hcap : Nat) (xs : List Int) (w : World) (hx : RdS w w.heap.size A l) (hh : RdI w w.heap.size HA xs) (hhm : xs.length ≤ maxLen) :
    Calls Try.prog 3 #[.int .i64 vars, .slice A l.length cap, .int .i64 regs, .slice HA xs.length hcap] w fun e w' => e = .returned (.bool true) ∧ Below w.heap.size w w' := by
  by_cases h : ckRun vars l regs xs = 0
  · have h1 : ckSteps vars l regs = 0 := by unfold ckRun at h; split at h <;> assumption
    have h2 : ckHave vars xs = 0 := by unfold ckRun at h; rw [if_pos h1] at h; exact h
    obtain ⟨b1, b2, b3, b4, b5, _⟩ := ckSteps_bd h1
    obtain ⟨rn, rfl⟩ := Int.eq_ofNat_of_zero_le (a := regs) (by omega)
    have H0 := Lib.hid h
    have H1 := Lib.hid h1
    have H2 := Lib.hid h2
    have hm8 : rn ≤ maxLen := by unfold maxLen; omega
    clear h h1 h2
    go_enter Try.func3, Try.ntmps3
    go_wp2_with fail
    refine (run_ok vars rn A HA _ cap hcap l xs _ hx hh rfl H1.out H2.out).mono ?_
    rintro e w1 ⟨g, rfl, hown, hb1⟩
    go_wp2_with fail
    refine (runCode_any vars rn A HA _ cap _ hcap l xs _ ((hx.below hb1 (Nat.le_refl _)).more hb1.size) ((hh.below hb1 (Nat.le_refl _)).more hb1.size) rfl rfl hhm).mono ?_
    rintro e w2 ⟨rfl, hb2⟩
    rw [H0.out]
    have hbw := hb1.trans (hb2.mono hb1.size)
    have hown2 := hown.below hb2 hown.lt
    go_wp2_with fail
    refine (refSteps_any vars rn A HA _ cap hcap l xs _ ((hx.below hbw (Nat.le_refl _)).more hbw.size) ((hh.below hbw (Nat.le_refl _)).more hbw.size) rfl H1.out H2.out).mono ?_
    rintro e w3 ⟨rfl, hown3, hb3⟩
    have hlt2 := hown2.lt
    have hlt3 := hown3.lt
    have hown2' := hown2.below hb3 hlt2
    have hrl : (runS l rn xs).length = rn := by rw [runS_len]; omega
    have HRL := Lib.hid hrl
    clear hrl
    have hx2 : RdI w3 w3.heap.size (some ⟨g, 0, none⟩) (runS l rn xs) := (OwnI.rd hown2').more (by have := hown2'.lt; omega)
    have hx3 : RdI w3 w3.heap.size (some ⟨w2.heap.size, 0, none⟩) (runS l rn xs) := (OwnI.rd hown3).more (by omega)
    go_wp2_with fail
    refine (ints_same (some ⟨g, 0, none⟩) (some ⟨w2.heap.size, 0, none⟩) rn rn rn _ _ hx2 hx3 HRL.out hm8).mono ?_
    rintro e w4 ⟨rfl, hb4⟩
    go_wp2_with fail
    go_ret
    exact ⟨ret_bool (by simp), hbw.trans ((hb3.mono hbw.size).trans (hb4.mono (Nat.le_trans hbw.size hb3.size)))⟩
  · have e1 : (ckRun vars l regs xs != 0) = true := by simp [h]
    have H0 := Lib.hid h
    clear h
    go_enter Try.func3, Try.ntmps3
    go_wp2_with fail
    refine (run_bad vars regs A HA _ cap hcap l xs _ hx hh rfl hhm H0.out).mono ?_
    rintro e w1 ⟨rfl, hb1⟩
    go_wp2_with fail
    refine (runCode_any vars regs A HA _ cap _ hcap l xs _ ((hx.below hb1 (Nat.le_refl _)).more hb1.size) ((hh.below hb1 (Nat.le_refl _)).more hb1.size) rfl rfl hhm).mono ?_
    rintro e w2 ⟨rfl, hb2⟩
    go_wp2_with fail
    go_ret
    exact ⟨ret_bool (by simp), hb1.trans (hb2.mono hb1.size)⟩

set_option maxRecDepth 100000 in
theorem lawNeedRuns_lifted (os : Os) (started : os.Started) (H : Type) (enc : TypeId × Value → H) :
    ReturnsInHanded {} Try.checked os 3 .any (Rows.needRunsSpec.pre6 enc Try.prog Try.f3 Rows.needRunsRow.domain false) (Rows.needRunsSpec.post enc Try.prog Try.f3 false true false false) := by
  refine returnsInHanded_of_change_sized (C := Try.checked) Try.own started (by kernel_rfl) Try.func3
    (ChangeSpec.witness6 (enc := enc) (C := Try.checked) false ⟨#[], #[.int .i64 0, .slice none 0 0, .int .i64 0, .slice none 0 0], []⟩ 8 (by kernel_rfl) (by kernel_rfl) (by kernel_rfl) (by kernel_rfl)) ?_
  intro W base args ds gs before hval0 hW hcnd hsz _
  have hval : ∀ (j : Nat) t v, Try.f3.params[j]? = some t → args[j]? = some v → Value.okWide Try.prog W .any base t v := hval0
  have hW' := hW
  obtain ⟨p, q, hA0, hV, rfl, hfz, hnd⟩ := hW
  have hA : DataW.TrodAll enc Try.prog W 0 (fun _ => true) true Try.f3.params.toList args.toList ds p := hA0
  obtain ⟨hgs, _⟩ := trodVars_none hV
  rw [Try.params3] at hA hval
  obtain ⟨v0, vs0, d0, ds0, p0, q0, hargs, rfl, rfl, h0, r0⟩ := trodAll_cons hA
  obtain ⟨v1, vs1, d1, ds1, p1, q1, rfl, rfl, rfl, h1, r1⟩ := trodAll_cons r0
  obtain ⟨v2, vs2, d2, ds2, p2, q2, rfl, rfl, rfl, h2, r2⟩ := trodAll_cons r1
  obtain ⟨v3, vs3, d3, ds3, p3, q3, rfl, rfl, rfl, h3, r3⟩ := trodAll_cons r2
  obtain ⟨rfl, rfl, rfl⟩ := trodAll_nil r3
  have hargs2 : args = #[v0, v1, v2, v3] := Array.toList_inj.1 hargs
  subst hargs2
  obtain ⟨a0, rfl, _, _, w0⟩ := open_int Try.underlying3 (hval 0 3 v0 rfl rfl) h0
  obtain ⟨A1, c1, l1, rfl, lc1, cm1, x1, r1⟩ := open_stepsA (hval 1 22 v1 rfl rfl) h1
  have b1 := len_reach Try.underlying22 (hval 1 22 _ rfl rfl) h1 hsz (j := 1) (by rw [Try.params3]; rfl) rfl
  rw [show Try.prog.bytesOf (Try.prog.elem 22) = 40 from by kernel_rfl] at b1
  obtain ⟨a2, rfl, _, _, w2⟩ := open_int Try.underlying3 (hval 2 3 v2 rfl rfl) h2
  obtain ⟨A3, c3, l3, rfl, lc3, cm3, x3, r3⟩ := open_intsA (hval 3 23 v3 rfl rfl) h3
  have b3 := len_reach Try.underlying23 (hval 3 23 _ rfl rfl) h3 hsz (j := 3) (by rw [Try.params3]; rfl) rfl
  rw [show Try.prog.bytesOf (Try.prog.elem 23) = 8 from by kernel_rfl] at b3
  refine (lawNeedRuns_any a0 A1 c1 l1 a2 A3 c3 l3 W x1 x3 (by omega)).mono fun e W' ⟨he, hb⟩ => ?_
  subst he
  exact ⟨_, rfl, law_post Try.laidOut rfl (by kernel_rfl) Try.underlying4 ⟨rfl, rfl, rfl⟩ (by kernel_rfl) hW' hb⟩

theorem needRuns_holds : Rows.NeedRunsSaid :=
  OpenClaim.holds_of_wide 3 Try.f3 rfl rfl rfl rfl rfl rfl rfl ⟨rfl, rfl, rfl, rfl, rfl⟩ rfl rfl rfl rfl rfl (by kernel_rfl) Try.func3 (show joinedFacts Try.prog 3 Try.f3 Rows.needRunsSpec Rows.needRunsRow = true from (by unfold joinedFacts; (repeat' (with_reducible refine and_both ?_ ?_)) <;> first | (with_reducible exact may_enter) | ((with_reducible refine make_ok ?_); rfl) | ((with_reducible refine lifts_ok ?_); rfl) | kernel_rfl))
    (of_decide_eq_true (by kernel_rfl)) (by unfold Func.isWrapper; rw [if_neg (of_decide_eq_false (by kernel_rfl))]; exact ⟨rfl, rfl⟩)
    (fun os started H enc _ => lawNeedRuns_lifted os started H enc)

end Go.Proofs.Ytfbpalgeajgbhaa
