/-
  The stack of a tree's code is at least as high as its register need: codemasonkeep.StackNeed returns true for all arguments and leaves them alone. No condition.
-/
import Derived.Test.YtppnckiedcbleaaLawStack
namespace Go.Proofs.Ytppnckiedcbleaa
open Go.RowKit Go.ChangeShapes Go.WideShapes Go.ChangeAt Go.Deep
set_option linter.unusedSimpArgs false
set_option linter.unusedVariables false
set_option maxRecDepth 100000

def sum3 : List Tm := [⟨2, 0, 0, 0⟩, ⟨2, 0, 0, 1⟩, ⟨3, 0, 1, 0⟩]

theorem sum3_ck : ckTree 2 sum3 = 0 := by
  have h1 : ckTerms 2 sum3 = 0 := by simp [ckTerms, sum3, ckAll, ckT, ckTerm]
  refine ckTree_of h1 (treeB_yes ?_)
  decide

theorem sum3_need : needR 2 sum3 = 2 := by
  unfold needR
  rw [if_pos sum3_ck]
  rfl

set_option maxHeartbeats 4000000 in
theorem lawStackNeed_any (vars : Int) (A : Option Addr) (cap : Nat) (l : List Tm) (w : World) (hx : RdT w w.heap.size A l) :
    Calls Try.prog 22 #[.int .i64 vars, .slice A l.length cap] w fun e w' => e = .returned (.bool true) ∧ Below w.heap.size w w' := by
  generalize hl : l.length = len at *
  have HL := Lib.hid hl
  clear hl
  go_enter Try.func22, Try.ntmps22
  go_wp2_with fail
  (with_reducible refine (need_any 2 _ _ _ sum3 _ ?_ ?_).mono ?_)
  · refine rdT_new _ _ _ _ _ ?_ ?_
    · rfl
    · simp
  · rfl
  rintro e w1 ⟨rfl, hb0⟩
  have hb1 : Below w.heap.size w w1 := Below.trans (by go_grown) (hb0.mono (by simp))
  rw [sum3_ck, sum3_need]
  clear hb0
  have hx1 := (hx.below hb1 (Nat.le_refl _)).more hb1.size
  go_wp2_with fail
  refine (need_any vars A _ cap l _ hx1 HL.out).mono ?_
  rintro e w2 ⟨rfl, hb2⟩
  have hbw2 := hb1.trans (hb2.mono hb1.size)
  have hx2 := (hx1.below hb2 (Nat.le_refl _)).more hb2.size
  clear hb1 hb2 hx1
  by_cases h : ckTree vars l = 0
  · have HT := Lib.hid h
    obtain ⟨hck, _, htl⟩ := ckTree_ok h
    obtain ⟨b1, b2, b3, b4⟩ := ckTerms_bd hck
    have HR : Hid (needR vars l = (ndA l (l.length - 1) : Int)) := Lib.hid (by unfold needR; rw [if_pos h])
    have HE : Hid ((ckTree vars l == 0) = true) := Lib.hid (by simp [h])
    have HLD : Hid ((ldA l (l.length - 1)).length = len) := Lib.hid (by rw [ld_root_len hck htl, HL.out])
    have HS0 : Hid (ckStack (-1) (ldA l (l.length - 1)) = 0) := Lib.hid (ld_ok hck htl (.inr (by omega)))
    have HDE : Hid (deepR (ldA l (l.length - 1)) = (htA l (l.length - 1) : Int)) := Lib.hid (by unfold deepR; rw [if_pos (ld_ok hck htl (.inr (by omega))), dp_root hck])
    obtain ⟨q1, q2, q3⟩ := nd_ht hck (l.length - 1) (by omega)
    rw [lf_root hck htl] at q2
    have hlv := wSum_le l
    rw [HL.out] at b4 hlv
    have HLV : Hid (∀ w : World, RdT w w.heap.size A l → Calls Try.prog 49 #[.slice A len cap] w fun e w' => e = .returned (.int .i64 (leavesL l : Nat)) ∧ Below w.heap.size w w') :=
      Lib.hid fun w hx => leaves_any A _ cap l w hx HL.out b4
    rw [HT.out, HR.out]
    clear h hck htl
    generalize ndA l (l.length - 1) = nd at *
    generalize htA l (l.length - 1) = ht at *
    generalize leavesL l = lv at *
    have q1' : (nd : Int) ≤ ht := by omega
    have q2' : (ht : Int) ≤ lv := by omega
    go_wp2_with fail
    refine (scode_ok vars A _ cap l _ hx2 HL.out HT.out).mono ?_
    rintro e w3 ⟨A3, c3, rfl, hr3, hb3⟩
    have hbw3 := hbw2.trans (hb3.mono hbw2.size)
    have hx3 := (hx2.below hb3 (Nat.le_refl _)).more hb3.size
    clear hbw2 hb3 hx2
    go_wp2_with fail
    refine (treed_any vars A _ cap l _ hx3 HL.out).mono ?_
    rintro e w4 ⟨rfl, hb4⟩
    rw [HE.out]
    have hbw4 := hbw3.trans (hb4.mono hbw3.size)
    have hx4 := (hx3.below hb4 (Nat.le_refl _)).more hb4.size
    have hr4 := (hr3.below hb4 (Nat.le_refl _)).more hb4.size
    clear hbw3 hb4 hx3 hr3
    go_wp2_with fail
    refine (sdeep_any A3 len c3 _ _ hr4 HLD.out).mono ?_
    rintro e w5 ⟨rfl, hb5⟩
    rw [HDE.out, HS0.out]
    have hbw5 := hbw4.trans (hb5.mono hbw4.size)
    have hx5 := (hx4.below hb5 (Nat.le_refl _)).more hb5.size
    clear hbw4 hb5 hx4 hr4
    go_wp2_with fail
    refine (HLV.out _ hx5).mono ?_
    rintro e w6 ⟨rfl, hb6⟩
    go_wp2_with fail
    go_ret
    exact ⟨ret_bool (by simp; try omega), hbw5.trans (hb6.mono hbw5.size)⟩
  · have e1 : (ckTree vars l != 0) = true := by simp [h]
    have HE : Hid ((ckTree vars l == 0) = false) := Lib.hid (by simp [h])
    have HN := Lib.hid h
    clear h
    go_wp2_with fail
    refine (scode_bad vars A _ cap l _ hx2 HL.out HN.out).mono ?_
    rintro e w3 ⟨rfl, hb3⟩
    have hbw3 := hbw2.trans (hb3.mono hbw2.size)
    have hx3 := (hx2.below hb3 (Nat.le_refl _)).more hb3.size
    go_wp2_with fail
    refine (treed_any vars A _ cap l _ hx3 HL.out).mono ?_
    rintro e w4 ⟨rfl, hb4⟩
    rw [HE.out]
    go_wp2_with fail
    go_ret
    exact ⟨ret_bool (by simp), hbw3.trans (hb4.mono hbw3.size)⟩

set_option maxRecDepth 100000 in
theorem lawStackNeed_lifted (os : Os) (started : os.Started) (H : Type) (enc : TypeId × Value → H) :
    ReturnsInHanded {} Try.checked os 22 .any (Rows.stackNeedSpec.pre6 enc Try.prog Try.f22 Rows.stackNeedRow.domain false) (Rows.stackNeedSpec.post enc Try.prog Try.f22 false true false false) := by
  refine returnsInHanded_of_change_sized (C := Try.checked) Try.own started (by kernel_rfl) Try.func22
    (ChangeSpec.witness6 (enc := enc) (C := Try.checked) false ⟨#[], #[.int .i64 0, .slice none 0 0], []⟩ 8 (by kernel_rfl) (by kernel_rfl) (by kernel_rfl) (by kernel_rfl)) ?_
  intro W base args ds gs before hval0 hW hcnd hsz _
  have hval : ∀ (j : Nat) t v, Try.f22.params[j]? = some t → args[j]? = some v → Value.okWide Try.prog W .any base t v := hval0
  have hW' := hW
  obtain ⟨p, q, hA0, hV, rfl, hfz, hnd⟩ := hW
  have hA : DataW.TrodAll enc Try.prog W 0 (fun _ => true) true Try.f22.params.toList args.toList ds p := hA0
  obtain ⟨hgs, _⟩ := trodVars_none hV
  rw [Try.params22] at hA hval
  obtain ⟨v0, vs0, d0, ds0, p0, q0, hargs, rfl, rfl, h0, r0⟩ := trodAll_cons hA
  obtain ⟨v1, vs1, d1, ds1, p1, q1, rfl, rfl, rfl, h1, r1⟩ := trodAll_cons r0
  obtain ⟨rfl, rfl, rfl⟩ := trodAll_nil r1
  have hargs2 : args = #[v0, v1] := Array.toList_inj.1 hargs
  subst hargs2
  obtain ⟨a0, rfl, _, _, w0⟩ := open_int Try.underlying3 (hval 0 3 v0 rfl rfl) h0
  obtain ⟨A1, c1, l1, rfl, lc1, cm1, x1, r1⟩ := open_termsA (hval 1 22 v1 rfl rfl) h1
  have b1 := len_reach Try.underlying22 (hval 1 22 _ rfl rfl) h1 hsz (j := 1) (by rw [Try.params22]; rfl) rfl
  rw [show Try.prog.bytesOf (Try.prog.elem 22) = 32 from by kernel_rfl] at b1
  refine (lawStackNeed_any a0 A1 c1 l1 W x1).mono fun e W' ⟨he, hb⟩ => ?_
  subst he
  exact ⟨_, rfl, law_post Try.laidOut rfl (by kernel_rfl) Try.underlying4 ⟨rfl, rfl, rfl⟩ (by kernel_rfl) hW' hb⟩

theorem stackNeed_holds : Rows.StackNeedSaid :=
  OpenClaim.holds_of_wide 22 Try.f22 rfl rfl rfl rfl rfl rfl rfl ⟨rfl, rfl, rfl, rfl, rfl⟩ rfl rfl rfl rfl rfl (by kernel_rfl) Try.func22 (show joinedFacts Try.prog 22 Try.f22 Rows.stackNeedSpec Rows.stackNeedRow = true from (by unfold joinedFacts; (repeat' (with_reducible refine and_both ?_ ?_)) <;> first | (with_reducible exact may_enter) | ((with_reducible refine make_ok ?_); rfl) | ((with_reducible refine lifts_ok ?_); rfl) | kernel_rfl))
    (of_decide_eq_true (by kernel_rfl)) (by unfold Func.isWrapper; rw [if_neg (of_decide_eq_false (by kernel_rfl))]; exact ⟨rfl, rfl⟩)
    (fun os started H enc _ => lawStackNeed_lifted os started H enc)

end Go.Proofs.Ytppnckiedcbleaa
