/-
  Code exists for the register need of a tree and not for one register fewer: codemasonkeep.NeedJust returns true for all arguments and leaves them alone. No condition.
-/
import Derived.Test.YtppnckiedcbleaaLawTree
namespace Go.Proofs.Ytppnckiedcbleaa
open Go.RowKit Go.ChangeShapes Go.WideShapes Go.ChangeAt Go.Deep
set_option linter.unusedSimpArgs false
set_option linter.unusedVariables false
set_option maxRecDepth 100000

set_option maxHeartbeats 4000000 in
theorem lawNeedJust_any (vars : Int) (A : Option Addr) (cap : Nat) (l : List Tm) (w : World) (hx : RdT w w.heap.size A l) :
    Calls Try.prog 14 #[.int .i64 vars, .slice A l.length cap] w fun e w' => e = .returned (.bool true) ∧ Below w.heap.size w w' := by
  by_cases h : ckTree vars l = 0
  · have HT := Lib.hid h
    obtain ⟨hck, _, htl⟩ := ckTree_ok h
    obtain ⟨b1, b2, b3, b4⟩ := ckTerms_bd hck
    obtain ⟨k1, k2, k3, k4⟩ := nd_root hck htl
    have hnr : needR vars l = (ndA l (l.length - 1) : Int) := by unfold needR; rw [if_pos h]
    have HR := Lib.hid hnr
    have e0 : (ckTree vars l == 0) = true := by simp [h]
    have HE0 := Lib.hid e0
    have HC1 : Hid (ckCode vars l (ndA l (l.length - 1) : Int) = 0) := Lib.hid (by unfold ckCode; rw [if_neg (by omega), if_pos h, if_neg (by omega)])
    have HC2 : Hid (ckCode vars l ((ndA l (l.length - 1) : Int) - 1) ≠ 0) := Lib.hid (by
      unfold ckCode
      rw [if_pos h, if_pos (show (ndA l (l.length - 1) : Int) - 1 < needR vars l by omega)]
      split <;> omega)
    have HC3 : Hid ((ckCode vars l ((ndA l (l.length - 1) : Int) - 1) != 0) = true) := Lib.hid (by simpa using HC2.out)
    have HSt : Hid (∀ (i : Nat) (s : St), (codeL l)[i]? = some s → 0 ≤ s.to ∧ s.to < (ndA l (l.length - 1) : Int)) := Lib.hid fun i s hs =>
      (ckStep_cases (ckStepsF_at (ckSteps_bd (code_ok (regs := (ndA l (l.length - 1) : Int)) hck htl (by omega) (by omega))).2.2.2.2.2 hs)).1
    have HCL : Hid ((codeL l).length = l.length) := Lib.hid (code_len hck htl)
    clear h hck htl e0 hnr k1 k3
    generalize hl : l.length = len at *
    have HL := Lib.hid hl
    clear hl
    generalize ndA l (len - 1) = k at *
    go_enter Try.func14, Try.ntmps14
    go_wp2_with fail
    refine (need_any vars A _ cap l _ hx HL.out).mono ?_
    rintro e w1 ⟨rfl, hb1⟩
    rw [HT.out, HR.out]
    go_wp2_with fail
    refine (treed_any vars A _ cap l _ ((hx.below hb1 (Nat.le_refl _)).more hb1.size) HL.out).mono ?_
    rintro e w2 ⟨rfl, hb2⟩
    rw [HE0.out]
    have hbw := hb1.trans (hb2.mono hb1.size)
    go_wp2_with fail
    refine (code_ok_any vars k A _ cap l _ ((hx.below hbw (Nat.le_refl _)).more hbw.size) HL.out HC1.out).mono ?_
    rintro e w3 ⟨A3, c3, rfl, hr3, hb3⟩
    have hbw3 := hbw.trans (hb3.mono hbw.size)
    go_wp2_with fail
    refine (code_bad vars (k - 1) A _ cap l _ ((hx.below hbw3 (Nat.le_refl _)).more hbw3.size) HL.out HC2.out).mono ?_
    rintro e w4 ⟨rfl, hb4⟩
    have hbw4 := hbw3.trans (hb4.mono hbw3.size)
    have hr4 := (hr3.below hb4 (Nat.le_refl _)).more hb4.size
    have HC3' := HC3.out
    generalize ckCode vars l ((k : Int) - 1) = ce at *
    clear hb1 hb2 hb3 hb4 hbw hbw3 hr3
    obtain ⟨wo, rfl⟩ : ∃ x, x = w4 := ⟨_, rfl⟩
    go_wp2_with fail
    go_loopw [52] (fun i wr => ∃ j : Nat, j ≤ len ∧ i = .int .i64 j ∧ Below wo.heap.size wo wr) (fun i _ => len - (intOf i).toNat)
    case atStart => exact ⟨0, Nat.zero_le _, rfl, Below.refl _ _⟩
    case round =>
      obtain ⟨j, hj, rfl, hb⟩ := hrel
      have hsz := hb.size
      by_cases hlt : j < len
      · obtain ⟨ad, o, t, a, b, v, rfl, hbl, hd, hc0, hc1, hc2, hc3, hc4⟩ := (hr4.below hb (Nat.le_refl _)).at_ (k := j) (by rw [HCL.out]; exact hlt)
        obtain ⟨ht0, ht1⟩ := HSt.out j _ hd
        simp only [] at ht0 ht1
        have hblw : (ad.add (j * 5)).block < wr.heap.size := by omega
        clear hd
        go_wp2_with fail
        go_round
        case rel => exact ⟨j + 1, by omega, by go_num, by go_grown⟩
        case measure => (simp [intOf]; omega)
      · go_wp2_with fail
        go_ret
        exact ⟨rfl, hbw4.trans (hb.mono hbw4.size)⟩
  · have e1 : (ckTree vars l != 0) = true := by simp [h]
    have e2 : (ckTree vars l == 0) = false := by simp [h]
    have HE := Lib.hid e2
    clear h e2
    go_enter Try.func14, Try.ntmps14
    go_wp2_with fail
    refine (need_any vars A _ cap l _ hx rfl).mono ?_
    rintro e w1 ⟨rfl, hb1⟩
    go_wp2_with fail
    refine (treed_any vars A _ cap l _ ((hx.below hb1 (Nat.le_refl _)).more hb1.size) rfl).mono ?_
    rintro e w2 ⟨rfl, hb2⟩
    rw [HE.out]
    go_wp2_with fail
    go_ret
    exact ⟨ret_bool (by simp), hb1.trans (hb2.mono hb1.size)⟩

set_option maxRecDepth 100000 in
theorem lawNeedJust_lifted (os : Os) (started : os.Started) (H : Type) (enc : TypeId × Value → H) :
    ReturnsInHanded {} Try.checked os 14 .any (Rows.needJustSpec.pre6 enc Try.prog Try.f14 Rows.needJustRow.domain false) (Rows.needJustSpec.post enc Try.prog Try.f14 false true false false) := by
  refine returnsInHanded_of_change_sized (C := Try.checked) Try.own started (by kernel_rfl) Try.func14
    (ChangeSpec.witness6 (enc := enc) (C := Try.checked) false ⟨#[], #[.int .i64 0, .slice none 0 0], []⟩ 8 (by kernel_rfl) (by kernel_rfl) (by kernel_rfl) (by kernel_rfl)) ?_
  intro W base args ds gs before hval0 hW hcnd hsz _
  have hval : ∀ (j : Nat) t v, Try.f14.params[j]? = some t → args[j]? = some v → Value.okWide Try.prog W .any base t v := hval0
  have hW' := hW
  obtain ⟨p, q, hA0, hV, rfl, hfz, hnd⟩ := hW
  have hA : DataW.TrodAll enc Try.prog W 0 (fun _ => true) true Try.f14.params.toList args.toList ds p := hA0
  obtain ⟨hgs, _⟩ := trodVars_none hV
  rw [Try.params14] at hA hval
  obtain ⟨v0, vs0, d0, ds0, p0, q0, hargs, rfl, rfl, h0, r0⟩ := trodAll_cons hA
  obtain ⟨v1, vs1, d1, ds1, p1, q1, rfl, rfl, rfl, h1, r1⟩ := trodAll_cons r0
  obtain ⟨rfl, rfl, rfl⟩ := trodAll_nil r1
  have hargs2 : args = #[v0, v1] := Array.toList_inj.1 hargs
  subst hargs2
  obtain ⟨a0, rfl, _, _, w0⟩ := open_int Try.underlying3 (hval 0 3 v0 rfl rfl) h0
  obtain ⟨A1, c1, l1, rfl, lc1, cm1, x1, r1⟩ := open_termsA (hval 1 22 v1 rfl rfl) h1
  have b1 := len_reach Try.underlying22 (hval 1 22 _ rfl rfl) h1 hsz (j := 1) (by rw [Try.params14]; rfl) rfl
  rw [show Try.prog.bytesOf (Try.prog.elem 22) = 32 from by kernel_rfl] at b1
  refine (lawNeedJust_any a0 A1 c1 l1 W x1).mono fun e W' ⟨he, hb⟩ => ?_
  subst he
  exact ⟨_, rfl, law_post Try.laidOut rfl (by kernel_rfl) Try.underlying4 ⟨rfl, rfl, rfl⟩ (by kernel_rfl) hW' hb⟩

theorem needJust_holds : Rows.NeedJustSaid :=
  OpenClaim.holds_of_wide 14 Try.f14 rfl rfl rfl rfl rfl rfl rfl ⟨rfl, rfl, rfl, rfl, rfl⟩ rfl rfl rfl rfl rfl (by kernel_rfl) Try.func14 (show joinedFacts Try.prog 14 Try.f14 Rows.needJustSpec Rows.needJustRow = true from (by unfold joinedFacts; (repeat' (with_reducible refine and_both ?_ ?_)) <;> first | (with_reducible exact may_enter) | ((with_reducible refine make_ok ?_); rfl) | ((with_reducible refine lifts_ok ?_); rfl) | kernel_rfl))
    (of_decide_eq_true (by kernel_rfl)) (by unfold Func.isWrapper; rw [if_neg (of_decide_eq_false (by kernel_rfl))]; exact ⟨rfl, rfl⟩)
    (fun os started H enc _ => lawNeedJust_lifted os started H enc)

end Go.Proofs.Ytppnckiedcbleaa
