/-
  stack.Back returns the terms that C2 gives, or the first error, for all arguments: codemasonlaw.StackBacks returns true and leaves its arguments alone. No condition.
-/
import Derived.Test.YtppnckiedcbleaaLawStack
namespace Go.Proofs.Ytppnckiedcbleaa
open Go.RowKit Go.ChangeShapes Go.WideShapes Go.ChangeAt Go.Deep
set_option linter.unusedSimpArgs false
set_option linter.unusedVariables false
set_option maxRecDepth 100000

set_option maxHeartbeats 4000000 in
theorem lawStackBacks_any (vars : Int) (A : Option Addr) (cap : Nat) (c : List So) (w : World) (hx : RdO w w.heap.size A c) :
    Calls Try.prog 19 #[.int .i64 vars, .slice A c.length cap] w fun e w' => e = .returned (.bool true) ∧ Below w.heap.size w w' := by
  generalize hl : c.length = len at *
  have HL := Lib.hid hl
  by_cases hk : ckStk vars c = 0
  · have HK := Lib.hid hk
    obtain ⟨v0, v6, c40, hcf⟩ := ckStk_ok hk
    have HF := Lib.hid hcf
    by_cases hn : c.length < 1 ∨ 16 < c.length
    · have HB : Hid (ckBack vars c = 1) := Lib.hid (by unfold ckBack; rw [if_pos hk, if_pos hn])
      have HN : Hid (ckBack vars c ≠ 0) := Lib.hid (by rw [HB.out]; omega)
      rw [hl] at hn
      clear hk hcf hl
      rcases hn with hn | hn
      all_goals
        go_enter Try.func19, Try.ntmps19
        go_wp2_with fail
        refine (sback_bad vars A len cap c _ hx HL.out HN.out).mono ?_
        rintro e w1 ⟨rfl, hb1⟩
        rw [HB.out]
        go_wp2_with fail
        refine (stackCode_any vars A len cap c _ ((hx.below hb1 (Nat.le_refl _)).more hb1.size) HL.out).mono ?_
        rintro e w2 ⟨rfl, hb2⟩
        rw [HK.out]
        go_wp2_with fail
        all_goals first
          | (go_ret; exact ⟨ret_bool (by simp), hb1.trans (hb2.mono hb1.size)⟩)
          | (exfalso; simp_all; omega)
    · have hn1 : ¬ len < 1 := by omega
      have hn2 : ¬ 16 < len := by omega
      by_cases h1 : (bkR c).length = 1
      · have HB : Hid (ckBack vars c = 0) := Lib.hid (by unfold ckBack; rw [if_pos hk, if_neg hn, if_pos h1])
        have H1 : Hid (decide ((bkR c).length = 1) = true) := Lib.hid (by simp [h1])
        have HLB : Hid ((bkL c).length = len) := Lib.hid (by unfold bkL; rw [bkF_len]; simp [hl])
        have hm : len ≤ maxLen := by unfold maxLen; omega
        rw [hl] at c40
        clear hk hcf hl hn h1
        go_enter Try.func19, Try.ntmps19
        go_wp2_with fail
        refine (sback_ok vars A len cap c _ hx HL.out HB.out).mono ?_
        rintro e w1 ⟨A1, c1, rfl, hr1, hb1⟩
        go_wp2_with fail
        refine (stackCode_any vars A len cap c _ ((hx.below hb1 (Nat.le_refl _)).more hb1.size) HL.out).mono ?_
        rintro e w2 ⟨rfl, hb2⟩
        rw [HK.out]
        have hbw := hb1.trans (hb2.mono hb1.size)
        have hr2 := (hr1.below hb2 (Nat.le_refl _)).more hb2.size
        go_wp2_with fail
        refine (refBacks_any vars A len cap c _ ((hx.below hbw (Nat.le_refl _)).more hbw.size) HL.out c40 HF.out).mono ?_
        rintro e w3 ⟨A3, c3, rfl, hr3, hb3⟩
        rw [H1.out]
        go_wp2_with fail
        refine (terms_same A1 A3 len c1 c3 (bkL c) _ ((hr2.below hb3 (Nat.le_refl _)).more hb3.size) hr3 HLB.out hm).mono ?_
        rintro e w4 ⟨rfl, hb4⟩
        go_wp2_with fail
        go_ret
        exact ⟨ret_bool (by simp), hbw.trans ((hb3.mono hbw.size).trans (hb4.mono (Nat.le_trans hbw.size hb3.size)))⟩
      · have HB : Hid (ckBack vars c = 3) := Lib.hid (by unfold ckBack; rw [if_pos hk, if_neg hn, if_neg h1])
        have HN : Hid (ckBack vars c ≠ 0) := Lib.hid (by rw [HB.out]; omega)
        have H1 : Hid (decide ((bkR c).length = 1) = false) := Lib.hid (by simp [h1])
        rw [hl] at c40
        clear hk hcf hl hn h1
        go_enter Try.func19, Try.ntmps19
        go_wp2_with fail
        refine (sback_bad vars A len cap c _ hx HL.out HN.out).mono ?_
        rintro e w1 ⟨rfl, hb1⟩
        rw [HB.out]
        go_wp2_with fail
        refine (stackCode_any vars A len cap c _ ((hx.below hb1 (Nat.le_refl _)).more hb1.size) HL.out).mono ?_
        rintro e w2 ⟨rfl, hb2⟩
        rw [HK.out]
        have hbw := hb1.trans (hb2.mono hb1.size)
        go_wp2_with fail
        refine (refBacks_any vars A len cap c _ ((hx.below hbw (Nat.le_refl _)).more hbw.size) HL.out c40 HF.out).mono ?_
        rintro e w3 ⟨A3, c3, rfl, hr3, hb3⟩
        rw [H1.out]
        go_wp2_with fail
        go_ret
        exact ⟨ret_bool (by simp), hbw.trans (hb3.mono hbw.size)⟩
  · have HB : Hid (ckBack vars c = ckStk vars c) := Lib.hid (by unfold ckBack; rw [if_neg hk])
    have HN : Hid (ckBack vars c ≠ 0) := Lib.hid (by rw [HB.out]; exact hk)
    have e3 : (ckStk vars c != 0) = true := by simp [hk]
    have e4 : (ckStk vars c == 0) = false := by simp [hk]
    clear hk hl
    go_enter Try.func19, Try.ntmps19
    go_wp2_with fail
    refine (sback_bad vars A len cap c _ hx HL.out HN.out).mono ?_
    rintro e w1 ⟨rfl, hb1⟩
    rw [HB.out]
    go_wp2_with fail
    refine (stackCode_any vars A len cap c _ ((hx.below hb1 (Nat.le_refl _)).more hb1.size) HL.out).mono ?_
    rintro e w2 ⟨rfl, hb2⟩
    go_wp2_with fail
    go_ret
    exact ⟨ret_bool (by simp), hb1.trans (hb2.mono hb1.size)⟩

set_option maxRecDepth 100000 in
theorem lawStackBacks_lifted (os : Os) (started : os.Started) (H : Type) (enc : TypeId × Value → H) :
    ReturnsInHanded {} Try.checked os 19 .any (Rows.stackBacksSpec.pre6 enc Try.prog Try.f19 Rows.stackBacksRow.domain false) (Rows.stackBacksSpec.post enc Try.prog Try.f19 false true false false) := by
  refine returnsInHanded_of_change_sized (C := Try.checked) Try.own started (by kernel_rfl) Try.func19
    (ChangeSpec.witness6 (enc := enc) (C := Try.checked) false ⟨#[], #[.int .i64 0, .slice none 0 0], []⟩ 8 (by kernel_rfl) (by kernel_rfl) (by kernel_rfl) (by kernel_rfl)) ?_
  intro W base args ds gs before hval0 hW hcnd hsz _
  have hval : ∀ (j : Nat) t v, Try.f19.params[j]? = some t → args[j]? = some v → Value.okWide Try.prog W .any base t v := hval0
  have hW' := hW
  obtain ⟨p, q, hA0, hV, rfl, hfz, hnd⟩ := hW
  have hA : DataW.TrodAll enc Try.prog W 0 (fun _ => true) true Try.f19.params.toList args.toList ds p := hA0
  obtain ⟨hgs, _⟩ := trodVars_none hV
  rw [Try.params19] at hA hval
  obtain ⟨v0, vs0, d0, ds0, p0, q0, hargs, rfl, rfl, h0, r0⟩ := trodAll_cons hA
  obtain ⟨v1, vs1, d1, ds1, p1, q1, rfl, rfl, rfl, h1, r1⟩ := trodAll_cons r0
  obtain ⟨rfl, rfl, rfl⟩ := trodAll_nil r1
  have hargs2 : args = #[v0, v1] := Array.toList_inj.1 hargs
  subst hargs2
  obtain ⟨a0, rfl, _, _, w0⟩ := open_int Try.underlying3 (hval 0 3 v0 rfl rfl) h0
  obtain ⟨A1, c1, l1, rfl, lc1, cm1, x1, r1⟩ := open_sopsA (hval 1 66 v1 rfl rfl) h1
  have b1 := len_reach Try.underlying66 (hval 1 66 _ rfl rfl) h1 hsz (j := 1) (by rw [Try.params19]; rfl) rfl
  rw [show Try.prog.bytesOf (Try.prog.elem 66) = 16 from by kernel_rfl] at b1
  refine (lawStackBacks_any a0 A1 c1 l1 W x1).mono fun e W' ⟨he, hb⟩ => ?_
  subst he
  exact ⟨_, rfl, law_post Try.laidOut rfl (by kernel_rfl) Try.underlying4 ⟨rfl, rfl, rfl⟩ (by kernel_rfl) hW' hb⟩

theorem stackBacks_holds : Rows.StackBacksSaid :=
  OpenClaim.holds_of_wide 19 Try.f19 rfl rfl rfl rfl rfl rfl rfl ⟨rfl, rfl, rfl, rfl, rfl⟩ rfl rfl rfl rfl rfl (by kernel_rfl) Try.func19 (show joinedFacts Try.prog 19 Try.f19 Rows.stackBacksSpec Rows.stackBacksRow = true from (by unfold joinedFacts; (repeat' (with_reducible refine and_both ?_ ?_)) <;> first | (with_reducible exact may_enter) | ((with_reducible refine make_ok ?_); rfl) | ((with_reducible refine lifts_ok ?_); rfl) | kernel_rfl))
    (of_decide_eq_true (by kernel_rfl)) (by unfold Func.isWrapper; rw [if_neg (of_decide_eq_false (by kernel_rfl))]; exact ⟨rfl, rfl⟩)
    (fun os started H enc _ => lawStackBacks_lifted os started H enc)

end Go.Proofs.Ytppnckiedcbleaa
