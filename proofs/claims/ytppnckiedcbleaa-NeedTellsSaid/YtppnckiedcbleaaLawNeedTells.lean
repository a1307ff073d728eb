/-
  need.Need returns the register need that B2 gives, or the first error, for all arguments: codemasonlaw.NeedTells returns true and leaves its arguments alone. No condition.
-/
import Derived.Test.YtppnckiedcbleaaLawTree
namespace Go.Proofs.Ytppnckiedcbleaa
open Go.RowKit Go.ChangeShapes Go.WideShapes Go.ChangeAt Go.Deep
set_option linter.unusedSimpArgs false
set_option linter.unusedVariables false
set_option maxRecDepth 100000

set_option maxHeartbeats 1000000 in
theorem lawNeedTells_any (vars : Int) (A : Option Addr) (cap : Nat) (l : List Tm) (w : World) (hx : RdT w w.heap.size A l) :
    Calls Try.prog 10 #[.int .i64 vars, .slice A l.length cap] w fun e w' => e = .returned (.bool true) ∧ Below w.heap.size w w' := by
  by_cases h : ckTree vars l = 0
  · have HT := Lib.hid h
    have hck := (ckTree_ok h).1
    have HCK := Lib.hid hck
    obtain ⟨b1, b2, b3, b4⟩ := ckTerms_bd hck
    have HR : Hid (needR vars l = (ndA l (l.length - 1) : Int)) := Lib.hid (by unfold needR; rw [if_pos h])
    have hcv : (l.length : Int) - 1 = ((l.length - 1 : Nat) : Int) := by omega
    clear h hck
    go_enter Try.func10, Try.ntmps10
    go_wp2_with fail
    refine (need_any vars A _ cap l _ hx rfl).mono ?_
    rintro e w1 ⟨rfl, hb1⟩
    rw [HT.out]
    go_wp2_with fail
    refine (treeCode_any vars A _ cap l _ ((hx.below hb1 (Nat.le_refl _)).more hb1.size) rfl).mono ?_
    rintro e w2 ⟨rfl, hb2⟩
    rw [HT.out]
    have hbw := hb1.trans (hb2.mono hb1.size)
    go_wp2_with fail
    refine (refNeed_any vars A cap l HCK.out (l.length - 1) (by omega) _ ((hx.below hbw (Nat.le_refl _)).more hbw.size)).mono ?_
    rintro e w3 ⟨rfl, rfl⟩
    rw [HR.out]
    go_wp2_with fail
    go_ret
    exact ⟨ret_bool (by simp), hbw⟩
  · have e1 : (ckTree vars l != 0) = true := by simp [h]
    have e2 : needR vars l = 0 := by unfold needR; rw [if_neg h]
    have HR := Lib.hid e2
    clear h e2
    go_enter Try.func10, Try.ntmps10
    go_wp2_with fail
    refine (need_any vars A _ cap l _ hx rfl).mono ?_
    rintro e w1 ⟨rfl, hb1⟩
    rw [HR.out]
    go_wp2_with fail
    refine (treeCode_any vars A _ cap l _ ((hx.below hb1 (Nat.le_refl _)).more hb1.size) rfl).mono ?_
    rintro e w2 ⟨rfl, hb2⟩
    go_wp2_with fail
    go_ret
    exact ⟨ret_bool (by simp), hb1.trans (hb2.mono hb1.size)⟩

set_option maxRecDepth 100000 in
theorem lawNeedTells_lifted (os : Os) (started : os.Started) (H : Type) (enc : TypeId × Value → H) :
    ReturnsInHanded {} Try.checked os 10 .any (Rows.needTellsSpec.pre6 enc Try.prog Try.f10 Rows.needTellsRow.domain false) (Rows.needTellsSpec.post enc Try.prog Try.f10 false true false false) := by
  refine returnsInHanded_of_change_sized (C := Try.checked) Try.own started (by kernel_rfl) Try.func10
    (ChangeSpec.witness6 (enc := enc) (C := Try.checked) false ⟨#[], #[.int .i64 0, .slice none 0 0], []⟩ 8 (by kernel_rfl) (by kernel_rfl) (by kernel_rfl) (by kernel_rfl)) ?_
  intro W base args ds gs before hval0 hW hcnd hsz _
  have hval : ∀ (j : Nat) t v, Try.f10.params[j]? = some t → args[j]? = some v → Value.okWide Try.prog W .any base t v := hval0
  have hW' := hW
  obtain ⟨p, q, hA0, hV, rfl, hfz, hnd⟩ := hW
  have hA : DataW.TrodAll enc Try.prog W 0 (fun _ => true) true Try.f10.params.toList args.toList ds p := hA0
  obtain ⟨hgs, _⟩ := trodVars_none hV
  rw [Try.params10] at hA hval
  obtain ⟨v0, vs0, d0, ds0, p0, q0, hargs, rfl, rfl, h0, r0⟩ := trodAll_cons hA
  obtain ⟨v1, vs1, d1, ds1, p1, q1, rfl, rfl, rfl, h1, r1⟩ := trodAll_cons r0
  obtain ⟨rfl, rfl, rfl⟩ := trodAll_nil r1
  have hargs2 : args = #[v0, v1] := Array.toList_inj.1 hargs
  subst hargs2
  obtain ⟨a0, rfl, _, _, w0⟩ := open_int Try.underlying3 (hval 0 3 v0 rfl rfl) h0
  obtain ⟨A1, c1, l1, rfl, lc1, cm1, x1, r1⟩ := open_termsA (hval 1 22 v1 rfl rfl) h1
  have b1 := len_reach Try.underlying22 (hval 1 22 _ rfl rfl) h1 hsz (j := 1) (by rw [Try.params10]; rfl) rfl
  rw [show Try.prog.bytesOf (Try.prog.elem 22) = 32 from by kernel_rfl] at b1
  refine (lawNeedTells_any a0 A1 c1 l1 W x1).mono fun e W' ⟨he, hb⟩ => ?_
  subst he
  exact ⟨_, rfl, law_post Try.laidOut rfl (by kernel_rfl) Try.underlying4 ⟨rfl, rfl, rfl⟩ (by kernel_rfl) hW' hb⟩

theorem needTells_holds : Rows.NeedTellsSaid :=
  OpenClaim.holds_of_wide 10 Try.f10 rfl rfl rfl rfl rfl rfl rfl ⟨rfl, rfl, rfl, rfl, rfl⟩ rfl rfl rfl rfl rfl (by kernel_rfl) Try.func10 (show joinedFacts Try.prog 10 Try.f10 Rows.needTellsSpec Rows.needTellsRow = true from (by unfold joinedFacts; (repeat' (with_reducible refine and_both ?_ ?_)) <;> first | (with_reducible exact may_enter) | ((with_reducible refine make_ok ?_); rfl) | ((with_reducible refine lifts_ok ?_); rfl) | kernel_rfl))
    (of_decide_eq_true (by kernel_rfl)) (by unfold Func.isWrapper; rw [if_neg (of_decide_eq_false (by kernel_rfl))]; exact ⟨rfl, rfl⟩)
    (fun os started H enc _ => lawNeedTells_lifted os started H enc)

end Go.Proofs.Ytppnckiedcbleaa
