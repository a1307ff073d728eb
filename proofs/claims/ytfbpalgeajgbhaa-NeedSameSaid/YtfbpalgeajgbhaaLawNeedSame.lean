/-
  Register 0 holds the value of the tree behind its register code: codemasonkeep.NeedSame returns true for all arguments and leaves them alone. No condition.
-/
import Derived.Test.YtfbpalgeajgbhaaLawTree
import Derived.Test.YtfbpalgeajgbhaaRun
import Derived.Test.YtfbpalgeajgbhaaTermValue
namespace Go.Proofs.Ytfbpalgeajgbhaa
open Go.RowKit Go.ChangeShapes Go.WideShapes Go.ChangeAt Go.Deep
set_option linter.unusedSimpArgs false
set_option linter.unusedVariables false
set_option maxRecDepth 100000

set_option maxHeartbeats 4000000 in
theorem lawNeedSame_any (vars : Int) (A : Option Addr) (cap : Nat) (l : List Tm) (HA : Option Addr) (hcap : Nat) (xs : List Int) (w : World) (hx : RdT w w.heap.size A l) (hh : RdI w w.heap.size HA xs) (hhm : xs.length ≤ maxLen) :
    Calls Try.prog 4 #[.int .i64 vars, .slice A l.length cap, .slice HA xs.length hcap] w fun e w' => e = .returned (.bool true) ∧ Below w.heap.size w w' := by
  generalize hl : l.length = len at *
  have HL := Lib.hid hl
  clear hl
  by_cases h : ckTree vars l = 0
  · have HT := Lib.hid h
    obtain ⟨hck, _, htl⟩ := ckTree_ok h
    obtain ⟨b1, b2, b3, b4⟩ := ckTerms_bd hck
    obtain ⟨k1, k2, k3, k4⟩ := nd_root hck htl
    have HCK := Lib.hid hck
    have HCC : Hid (ckCode vars l 8 = 0) := Lib.hid (by
      have hnr : needR vars l = (ndA l (l.length - 1) : Int) := by unfold needR; rw [if_pos h]
      unfold ckCode; rw [if_neg (by omega), if_pos h, if_neg (by omega)])
    have HE0 : Hid ((ckTree vars l == 0) = true) := Lib.hid (by simp [h])
    have HSC : Hid (ckSteps vars (codeL l) ((8 : Nat) : Int) = 0) := Lib.hid (code_ok hck htl (by omega) (by omega))
    have HCL : Hid ((codeL l).length = len) := Lib.hid (by rw [code_len hck htl, HL.out])
    have HRV : Hid ((runS (codeL l) ((8 : Nat) : Int) xs)[0]? = some (valT l xs)) := Lib.hid (code_run xs hck (by omega))
    rw [HL.out] at b3 b4
    clear h hck htl k1 k2 k3 k4
    by_cases hv : ckHave vars xs = 0
    · have HV := Lib.hid hv
      have HE1 : Hid ((ckHave vars xs == 0) = true) := Lib.hid (by simp [hv])
      have HVV : Hid (ckVal vars l xs = 0) := Lib.hid (ckVal_of HCK.out hv)
      clear hv
      go_enter Try.func4, Try.ntmps4
      go_wp2_with fail
      refine (code_ok_any vars 8 A _ cap l _ hx HL.out HCC.out).mono ?_
      rintro e w1 ⟨A1, c1, rfl, hr1, hb1⟩
      go_wp2_with fail
      refine (value_ok vars A HA _ cap hcap l xs _ ((hx.below hb1 (Nat.le_refl _)).more hb1.size) ((hh.below hb1 (Nat.le_refl _)).more hb1.size) HL.out HCK.out HV.out).mono ?_
      rintro e w2 ⟨rfl, hb2⟩
      have hr2 := (hr1.below hb2 (Nat.le_refl _)).more hb2.size
      have hbw2 := hb1.trans (hb2.mono hb1.size)
      clear hb1 hb2 hr1
      go_wp2_with fail
      refine (treed_any vars A _ cap l _ ((hx.below hbw2 (Nat.le_refl _)).more hbw2.size) HL.out).mono ?_
      rintro e w3 ⟨rfl, hb3⟩
      rw [HE0.out]
      have hr3 := (hr2.below hb3 (Nat.le_refl _)).more hb3.size
      have hbw3 := hbw2.trans (hb3.mono hbw2.size)
      clear hbw2 hb3 hr2
      go_wp2_with fail
      refine (given_any vars HA _ hcap xs _ _ (hh.below hbw3 (Nat.le_refl _)) rfl hhm).mono ?_
      rintro e w4 ⟨rfl, rfl⟩
      rw [HE1.out]
      have hrun := run_ok vars 8 A1 HA len c1 hcap (codeL l) xs w3 hr3 ((hh.below hbw3 (Nat.le_refl _)).more hbw3.size) HCL.out HSC.out HV.out
      rw [show ((8 : Nat) : Int) = 8 from rfl] at hrun
      go_wp2_with fail
      refine hrun.mono ?_
      clear hrun
      rintro e w5 ⟨g, rfl, hown, hb5⟩
      have hc0 := hown.cell (iv_at (j := 0) HRV.out)
      go_wp2_with fail
      go_ret
      exact ⟨ret_bool (by simp), hbw3.trans (hb5.mono hbw3.size)⟩
    · have HE1 : Hid ((ckHave vars xs == 0) = false) := Lib.hid (by simp [hv])
      have e2 : (ckHave vars xs != 0) = true := by simp [hv]
      have HVV : Hid (ckVal vars l xs = ckHave vars xs) := Lib.hid (by unfold ckVal; rw [if_pos HCK.out])
      have HVN : Hid (ckTerms vars l ≠ 0 ∨ ckHave vars xs ≠ 0) := Lib.hid (.inr hv)
      clear hv
      go_enter Try.func4, Try.ntmps4
      go_wp2_with fail
      refine (code_ok_any vars 8 A _ cap l _ hx HL.out HCC.out).mono ?_
      rintro e w1 ⟨A1, c1, rfl, hr1, hb1⟩
      go_wp2_with fail
      refine (value_bad vars A HA _ cap hcap l xs _ ((hx.below hb1 (Nat.le_refl _)).more hb1.size) ((hh.below hb1 (Nat.le_refl _)).more hb1.size) HL.out hhm HVN.out).mono ?_
      rintro e w2 ⟨rfl, hb2⟩
      rw [HVV.out]
      have hbw2 := hb1.trans (hb2.mono hb1.size)
      clear hb1 hb2 hr1
      go_wp2_with fail
      refine (treed_any vars A _ cap l _ ((hx.below hbw2 (Nat.le_refl _)).more hbw2.size) HL.out).mono ?_
      rintro e w3 ⟨rfl, hb3⟩
      rw [HE0.out]
      have hbw3 := hbw2.trans (hb3.mono hbw2.size)
      clear hbw2 hb3
      go_wp2_with fail
      refine (given_any vars HA _ hcap xs _ _ (hh.below hbw3 (Nat.le_refl _)) rfl hhm).mono ?_
      rintro e w4 ⟨rfl, rfl⟩
      rw [HE1.out]
      go_wp2_with fail
      go_ret
      exact ⟨ret_bool (by simp), hbw3⟩
  · have e1 : (ckTree vars l != 0) = true := by simp [h]
    have HE0 : Hid ((ckTree vars l == 0) = false) := Lib.hid (by simp [h])
    have hcc : ckCode vars l 8 = ckTree vars l := by unfold ckCode; rw [if_neg (by omega), if_neg h]
    have HCN : Hid (ckCode vars l 8 ≠ 0) := Lib.hid (by rw [hcc]; exact h)
    have HCC := Lib.hid hcc
    clear h hcc
    go_enter Try.func4, Try.ntmps4
    go_wp2_with fail
    refine (code_bad vars 8 A _ cap l _ hx HL.out HCN.out).mono ?_
    rintro e w1 ⟨rfl, hb1⟩
    rw [HCC.out]
    go_wp2_with fail
    refine (value_any vars A HA _ cap _ hcap l xs _ ((hx.below hb1 (Nat.le_refl _)).more hb1.size) ((hh.below hb1 (Nat.le_refl _)).more hb1.size) HL.out rfl hhm).mono ?_
    rintro e w2 ⟨rfl, hb2⟩
    have hbw2 := hb1.trans (hb2.mono hb1.size)
    clear hb1 hb2
    go_wp2_with fail
    refine (treed_any vars A _ cap l _ ((hx.below hbw2 (Nat.le_refl _)).more hbw2.size) HL.out).mono ?_
    rintro e w3 ⟨rfl, hb3⟩
    rw [HE0.out]
    go_wp2_with fail
    go_ret
    exact ⟨ret_bool (by simp), hbw2.trans (hb3.mono hbw2.size)⟩

set_option maxRecDepth 100000 in
theorem lawNeedSame_lifted (os : Os) (started : os.Started) (H : Type) (enc : TypeId × Value → H) :
    ReturnsInHanded {} Try.checked os 4 .any (Rows.needSameSpec.pre6 enc Try.prog Try.f4 Rows.needSameRow.domain false) (Rows.needSameSpec.post enc Try.prog Try.f4 false true false false) := by
  refine returnsInHanded_of_change_sized (C := Try.checked) Try.own started (by kernel_rfl) Try.func4
    (ChangeSpec.witness6 (enc := enc) (C := Try.checked) false ⟨#[], #[.int .i64 0, .slice none 0 0, .slice none 0 0], []⟩ 8 (by kernel_rfl) (by kernel_rfl) (by kernel_rfl) (by kernel_rfl)) ?_
  intro W base args ds gs before hval0 hW hcnd hsz _
  have hval : ∀ (j : Nat) t v, Try.f4.params[j]? = some t → args[j]? = some v → Value.okWide Try.prog W .any base t v := hval0
  have hW' := hW
  obtain ⟨p, q, hA0, hV, rfl, hfz, hnd⟩ := hW
  have hA : DataW.TrodAll enc Try.prog W 0 (fun _ => true) true Try.f4.params.toList args.toList ds p := hA0
  obtain ⟨hgs, _⟩ := trodVars_none hV
  rw [Try.params4] at hA hval
  obtain ⟨v0, vs0, d0, ds0, p0, q0, hargs, rfl, rfl, h0, r0⟩ := trodAll_cons hA
  obtain ⟨v1, vs1, d1, ds1, p1, q1, rfl, rfl, rfl, h1, r1⟩ := trodAll_cons r0
  obtain ⟨v2, vs2, d2, ds2, p2, q2, rfl, rfl, rfl, h2, r2⟩ := trodAll_cons r1
  obtain ⟨rfl, rfl, rfl⟩ := trodAll_nil r2
  have hargs2 : args = #[v0, v1, v2] := Array.toList_inj.1 hargs
  subst hargs2
  obtain ⟨a0, rfl, _, _, w0⟩ := open_int Try.underlying3 (hval 0 3 v0 rfl rfl) h0
  obtain ⟨A1, c1, l1, rfl, lc1, cm1, x1, r1⟩ := open_termsA (hval 1 31 v1 rfl rfl) h1
  have b1 := len_reach Try.underlying31 (hval 1 31 _ rfl rfl) h1 hsz (j := 1) (by rw [Try.params4]; rfl) rfl
  rw [show Try.prog.bytesOf (Try.prog.elem 31) = 32 from by kernel_rfl] at b1
  obtain ⟨A2, c2, l2, rfl, lc2, cm2, x2, r2⟩ := open_intsA (hval 2 23 v2 rfl rfl) h2
  have b2 := len_reach Try.underlying23 (hval 2 23 _ rfl rfl) h2 hsz (j := 2) (by rw [Try.params4]; rfl) rfl
  rw [show Try.prog.bytesOf (Try.prog.elem 23) = 8 from by kernel_rfl] at b2
  refine (lawNeedSame_any a0 A1 c1 l1 A2 c2 l2 W x1 x2 (by omega)).mono fun e W' ⟨he, hb⟩ => ?_
  subst he
  exact ⟨_, rfl, law_post Try.laidOut rfl (by kernel_rfl) Try.underlying4 ⟨rfl, rfl, rfl⟩ (by kernel_rfl) hW' hb⟩

theorem needSame_holds : Rows.NeedSameSaid :=
  OpenClaim.holds_of_wide 4 Try.f4 rfl rfl rfl rfl rfl rfl rfl ⟨rfl, rfl, rfl, rfl, rfl⟩ rfl rfl rfl rfl rfl (by kernel_rfl) Try.func4 (show joinedFacts Try.prog 4 Try.f4 Rows.needSameSpec Rows.needSameRow = true from (by unfold joinedFacts; (repeat' (with_reducible refine and_both ?_ ?_)) <;> first | (with_reducible exact may_enter) | ((with_reducible refine make_ok ?_); rfl) | ((with_reducible refine lifts_ok ?_); rfl) | kernel_rfl))
    (of_decide_eq_true (by kernel_rfl)) (by unfold Func.isWrapper; rw [if_neg (of_decide_eq_false (by kernel_rfl))]; exact ⟨rfl, rfl⟩)
    (fun os started H enc _ => lawNeedSame_lifted os started H enc)

end Go.Proofs.Ytfbpalgeajgbhaa
