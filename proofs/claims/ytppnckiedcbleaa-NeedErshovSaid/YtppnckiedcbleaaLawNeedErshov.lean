/-
  A tree of register need k has at least 2 to the power k - 1 leaves: codemasonkeep.NeedErshov returns true for all arguments and leaves them alone. No condition.
-/
import Derived.Test.YtppnckiedcbleaaLawTree
namespace Go.Proofs.Ytppnckiedcbleaa
open Go.RowKit Go.ChangeShapes Go.WideShapes Go.ChangeAt Go.Deep
set_option linter.unusedSimpArgs false
set_option linter.unusedVariables false
set_option maxRecDepth 100000

set_option maxHeartbeats 2000000 in
theorem lawNeedErshov_any (vars : Int) (A : Option Addr) (cap : Nat) (l : List Tm) (w : World) (hx : RdT w w.heap.size A l) :
    Calls Try.prog 13 #[.int .i64 vars, .slice A l.length cap] w fun e w' => e = .returned (.bool true) ∧ Below w.heap.size w w' := by
  by_cases h : ckTree vars l = 0
  · have HT := Lib.hid h
    obtain ⟨hck, _, htl⟩ := ckTree_ok h
    obtain ⟨b1, b2, b3, b4⟩ := ckTerms_bd hck
    obtain ⟨k1, k2, k3, k4⟩ := nd_root hck htl
    have HR : Hid (needR vars l = (ndA l (l.length - 1) : Int)) := Lib.hid (by unfold needR; rw [if_pos h])
    have e0 : (ckTree vars l == 0) = true := by simp [h]
    have hlv : leavesL l ≤ 16 := Nat.le_trans (wSum_le l) b4
    have HLV : Hid (∀ w : World, RdT w w.heap.size A l → Calls Try.prog 49 #[.slice A l.length cap] w fun e w' => e = .returned (.int .i64 (leavesL l : Nat)) ∧ Below w.heap.size w w') :=
      Lib.hid fun w hx => leaves_any A _ cap l w hx rfl b4
    have HE0 := Lib.hid e0
    clear h hck htl e0
    generalize ndA l (l.length - 1) = k at *
    generalize leavesL l = lv at *
    have H2 := Lib.hid k1
    clear k1
    go_enter Try.func13, Try.ntmps13
    go_wp2_with fail
    refine (need_any vars A _ cap l _ hx rfl).mono ?_
    rintro e w1 ⟨rfl, hb1⟩
    rw [HT.out, HR.out]
    go_wp2_with fail
    refine (treed_any vars A _ cap l _ ((hx.below hb1 (Nat.le_refl _)).more hb1.size) rfl).mono ?_
    rintro e w2 ⟨rfl, hb2⟩
    rw [HE0.out]
    have hbw := hb1.trans (hb2.mono hb1.size)
    have HX := Lib.hid ((hx.below hbw (Nat.le_refl _)).more hbw.size)
    go_wp2_with fail
    go_loop [7, 8] (fun m i => ∃ j : Nat, 1 ≤ j ∧ j ≤ k ∧ i = .int .i64 j ∧ m = .int .i64 ((2 ^ (j - 1) : Nat) : Int)) (fun _ i => k - (intOf i).toNat)
    case atStart => exact ⟨1, Nat.le_refl _, k2, rfl, rfl⟩
    case round =>
      obtain ⟨j, hj1, hj2, rfl, rfl⟩ := hrel
      have hpow : (2 : Nat) ^ (j - 1) ≤ 16 := by
        have h1 : (2 : Nat) ^ (j - 1) ≤ 2 ^ 4 := Nat.pow_le_pow_right (by omega) (by omega)
        omega
      by_cases hlt : j < k
      · have HS : Hid ((2 : Nat) ^ (j + 1 - 1) = 2 ^ (j - 1) * 2) := Lib.hid (by rw [show j + 1 - 1 = (j - 1) + 1 from by omega, Nat.pow_succ])
        generalize (2 : Nat) ^ (j - 1) = p at *
        have hj20 : j < 20 := by omega
        go_wp2_with fail
        go_round
        case rel => exact ⟨j + 1, by omega, by omega, by go_num, by rw [HS.out]; go_num⟩
        case measure => simp [intOf]; omega
      · have hjk : j = k := by omega
        subst hjk
        have H2' := H2.out
        generalize (2 : Nat) ^ (j - 1) = p at *
        go_wp2_with fail
        refine (HLV.out _ HX.out).mono ?_
        rintro e w3 ⟨rfl, hb3⟩
        go_wp2_with fail
        refine (HLV.out _ ((HX.out.below hb3 (Nat.le_refl _)).more hb3.size)).mono ?_
        rintro e w4 ⟨rfl, hb4⟩
        go_wp2_with fail
        go_ret
        exact ⟨ret_bool (by simp; try omega), hbw.trans ((hb3.mono hbw.size).trans (hb4.mono (Nat.le_trans hbw.size hb3.size)))⟩
  · have e1 : (ckTree vars l != 0) = true := by simp [h]
    have e2 : (ckTree vars l == 0) = false := by simp [h]
    have HE := Lib.hid e2
    clear h e2
    go_enter Try.func13, Try.ntmps13
    go_wp2_with fail
    refine (need_any vars A _ cap l _ hx rfl).mono ?_
    rintro e w1 ⟨rfl, hb1⟩
    go_wp2_with fail
    refine (treed_any vars A _ cap l _ ((hx.below hb1 (Nat.le_refl _)).more hb1.size) rfl).mono ?_
    rintro e w2 ⟨rfl, hb2⟩
    rw [HE.out]
    go_wp2_with fail
    go_ret
    exact ⟨ret_bool (by simp), hb1.trans (hb2.mono hb1.size)⟩

set_option maxRecDepth 100000 in
theorem lawNeedErshov_lifted (os : Os) (started : os.Started) (H : Type) (enc : TypeId × Value → H) :
    ReturnsInHanded {} Try.checked os 13 .any (Rows.needErshovSpec.pre6 enc Try.prog Try.f13 Rows.needErshovRow.domain false) (Rows.needErshovSpec.post enc Try.prog Try.f13 false true false false) := by
  refine returnsInHanded_of_change_sized (C := Try.checked) Try.own started (by kernel_rfl) Try.func13
    (ChangeSpec.witness6 (enc := enc) (C := Try.checked) false ⟨#[], #[.int .i64 0, .slice none 0 0], []⟩ 8 (by kernel_rfl) (by kernel_rfl) (by kernel_rfl) (by kernel_rfl)) ?_
  intro W base args ds gs before hval0 hW hcnd hsz _
  have hval : ∀ (j : Nat) t v, Try.f13.params[j]? = some t → args[j]? = some v → Value.okWide Try.prog W .any base t v := hval0
  have hW' := hW
  obtain ⟨p, q, hA0, hV, rfl, hfz, hnd⟩ := hW
  have hA : DataW.TrodAll enc Try.prog W 0 (fun _ => true) true Try.f13.params.toList args.toList ds p := hA0
  obtain ⟨hgs, _⟩ := trodVars_none hV
  rw [Try.params13] at hA hval
  obtain ⟨v0, vs0, d0, ds0, p0, q0, hargs, rfl, rfl, h0, r0⟩ := trodAll_cons hA
  obtain ⟨v1, vs1, d1, ds1, p1, q1, rfl, rfl, rfl, h1, r1⟩ := trodAll_cons r0
  obtain ⟨rfl, rfl, rfl⟩ := trodAll_nil r1
  have hargs2 : args = #[v0, v1] := Array.toList_inj.1 hargs
  subst hargs2
  obtain ⟨a0, rfl, _, _, w0⟩ := open_int Try.underlying3 (hval 0 3 v0 rfl rfl) h0
  obtain ⟨A1, c1, l1, rfl, lc1, cm1, x1, r1⟩ := open_termsA (hval 1 22 v1 rfl rfl) h1
  have b1 := len_reach Try.underlying22 (hval 1 22 _ rfl rfl) h1 hsz (j := 1) (by rw [Try.params13]; rfl) rfl
  rw [show Try.prog.bytesOf (Try.prog.elem 22) = 32 from by kernel_rfl] at b1
  refine (lawNeedErshov_any a0 A1 c1 l1 W x1).mono fun e W' ⟨he, hb⟩ => ?_
  subst he
  exact ⟨_, rfl, law_post Try.laidOut rfl (by kernel_rfl) Try.underlying4 ⟨rfl, rfl, rfl⟩ (by kernel_rfl) hW' hb⟩

theorem needErshov_holds : Rows.NeedErshovSaid :=
  OpenClaim.holds_of_wide 13 Try.f13 rfl rfl rfl rfl rfl rfl rfl ⟨rfl, rfl, rfl, rfl, rfl⟩ rfl rfl rfl rfl rfl (by kernel_rfl) Try.func13 (show joinedFacts Try.prog 13 Try.f13 Rows.needErshovSpec Rows.needErshovRow = true from (by unfold joinedFacts; (repeat' (with_reducible refine and_both ?_ ?_)) <;> first | (with_reducible exact may_enter) | ((with_reducible refine make_ok ?_); rfl) | ((with_reducible refine lifts_ok ?_); rfl) | kernel_rfl))
    (of_decide_eq_true (by kernel_rfl)) (by unfold Func.isWrapper; rw [if_neg (of_decide_eq_false (by kernel_rfl))]; exact ⟨rfl, rfl⟩)
    (fun os started H enc _ => lawNeedErshov_lifted os started H enc)

end Go.Proofs.Ytppnckiedcbleaa
