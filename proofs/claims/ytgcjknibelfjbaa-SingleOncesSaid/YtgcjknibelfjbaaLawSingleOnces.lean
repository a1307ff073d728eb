/-
  single.Once tells whether each name is set once, ahead of its uses (M3), or the first error, for all arguments: codemasonlaw.SingleOnces returns true and leaves its arguments alone. No condition.
-/
import Derived.Test.YtgcjknibelfjbaaLawBlock
import Derived.Test.YtgcjknibelfjbaaMSnDef
import Derived.Test.YtgcjknibelfjbaaSingleOnce
namespace Go.Proofs.Ytgcjknibelfjbaa
open Go.RowKit Go.ChangeShapes Go.WideShapes Go.ChangeAt Go.Deep
set_option linter.unusedSimpArgs false
set_option linter.unusedVariables false
set_option maxRecDepth 100000

theorem ckSingle_natO {vars : Int} {l : List Sg} (h : ckSingle vars l = 0) : ∃ n : Nat, vars = (n : Int) ∧ 1 ≤ n ∧ n ≤ 6 := by
  obtain ⟨h1, h2, _⟩ := ckSingle_bd h
  exact ⟨vars.toNat, by omega, by omega, by omega⟩

set_option maxHeartbeats 4000000 in
theorem snOnce_bad (vars : Int) (A : Option Addr) (len cap : Nat) (l : List Sg) (w : World) (hx : RdN w w.heap.size A l) (hpl : l.length = len) (hm : len ≤ maxLen) (hin : ∀ s ∈ l, InSg s) (hc : ckSingle vars l ≠ 0) :
    Calls Try.prog 14 #[.int .i64 vars, .slice A len cap] w fun e w' => e = .returned (.tuple #[.bool false, .int .i64 (ckSingle vars l)]) ∧ Below w.heap.size w w' := by
  have HCK := Lib.hid (singleChk_any vars A len cap l w hx hpl hm hin)
  unfold ChkS at HCK
  have e1 : (ckSingle vars l != 0) = true := by simp [hc]
  clear hx hin hc
  go_enter Try.func14, Try.ntmps14
  go_wp2_with (go_at_call 20; (with_reducible refine HCK.out.mono ?_); rintro e w1 ⟨A1, n1, c1, rfl, _, hb1⟩)
  go_ret2
  exact ⟨rfl, hb1⟩

set_option maxHeartbeats 4000000 in
theorem lawSingleOnces_any (vars : Int) (A : Option Addr) (cap : Nat) (l : List Sg) (w : World) (hx : RdN w w.heap.size A l) (hm : l.length ≤ maxLen) (hin : ∀ s ∈ l, InSg s) :
    Calls Try.prog 5 #[.int .i64 vars, .slice A l.length cap] w fun e w' => e = .returned (.bool true) ∧ Below w.heap.size w w' := by
  have HIN := Lib.hid hin
  have HM := Lib.hid hm
  clear hin hm
  by_cases hc : ckSingle vars l = 0
  · obtain ⟨n, rfl, hn1, hn6⟩ := ckSingle_natO hc
    have HC := Lib.hid hc
    have HO := Lib.hid (snOnce_any n A _ cap l w hx rfl HIN.out hc)
    have HR := Lib.hid (fun Z (h : RdN Z Z.heap.size A l) => onceSet_any n A _ cap l Z h rfl hc)
    clear hc
    go_enter Try.func5, Try.ntmps5
    go_wp2_with fail
    refine HO.out.mono ?_
    rintro e w1 ⟨b, rfl, hb, hb1⟩
    have HB := Lib.hid hb
    have hx1 := (hx.below hb1 (Nat.le_refl _)).more hb1.size
    clear hb
    go_wp2_with fail
    refine (singleCheck_any n A _ cap l _ hx1 rfl HM.out HIN.out).mono ?_
    rintro e w2 ⟨rfl, hb2⟩
    rw [HC.out]
    have hb12 := hb1.trans (hb2.mono hb1.size)
    have hx2 := (hx.below hb12 (Nat.le_refl _)).more hb12.size
    go_wp2_with fail
    refine (HR.out _ hx2).mono ?_
    rintro e w3 ⟨⟨b2, rfl, hb2i⟩, hb3⟩
    have HBB : Hid (b = b2) := Lib.hid (Bool.eq_iff_iff.2 (HB.out.trans hb2i.symm))
    clear hb2i
    go_wp2
    go_ret
    exact ⟨ret_bool (by rw [HBB.out]; simp), hb12.trans (hb3.mono hb12.size)⟩
  · have HB := Lib.hid (snOnce_bad vars A _ cap l w hx rfl HM.out HIN.out hc)
    have e1 : (ckSingle vars l == 0) = false := by simp [hc]
    have e2 : (ckSingle vars l != 0) = true := by simp [hc]
    clear hc
    go_enter Try.func5, Try.ntmps5
    go_wp2_with fail
    refine HB.out.mono ?_
    rintro e w1 ⟨rfl, hb1⟩
    have hx1 := (hx.below hb1 (Nat.le_refl _)).more hb1.size
    go_wp2_with fail
    refine (singleCheck_any vars A _ cap l _ hx1 rfl HM.out HIN.out).mono ?_
    rintro e w2 ⟨rfl, hb2⟩
    go_wp2
    go_ret
    exact ⟨ret_bool (by simp), hb1.trans (hb2.mono hb1.size)⟩

set_option maxRecDepth 100000 in
theorem lawSingleOnces_lifted (os : Os) (started : os.Started) (H : Type) (enc : TypeId × Value → H) :
    ReturnsInHanded {} Try.checked os 5 .any (Rows.singleOncesSpec.pre6 enc Try.prog Try.f5 Rows.singleOncesRow.domain false) (Rows.singleOncesSpec.post enc Try.prog Try.f5 false true false false) := by
  refine returnsInHanded_of_change_sized (C := Try.checked) Try.own started (by kernel_rfl) Try.func5
    (ChangeSpec.witness6 (enc := enc) (C := Try.checked) false ⟨#[], #[.int .i64 0, .slice none 0 0], []⟩ 8 (by kernel_rfl) (by kernel_rfl) (by kernel_rfl) (by kernel_rfl)) ?_
  intro W base args ds gs before hval0 hW hcnd hsz _
  have hval : ∀ (j : Nat) t v, Try.f5.params[j]? = some t → args[j]? = some v → Value.okWide Try.prog W .any base t v := hval0
  have hW' := hW
  obtain ⟨p, q, hA0, hV, rfl, hfz, hnd⟩ := hW
  have hA : DataW.TrodAll enc Try.prog W 0 (fun _ => true) true Try.f5.params.toList args.toList ds p := hA0
  obtain ⟨hgs, _⟩ := trodVars_none hV
  rw [Try.params5] at hA hval
  obtain ⟨v0, vs0, d0, ds0, p0, q0, hargs, rfl, rfl, h0, r0⟩ := trodAll_cons hA
  obtain ⟨v1, vs1, d1, ds1, p1, q1, rfl, rfl, rfl, h1, r1⟩ := trodAll_cons r0
  obtain ⟨rfl, rfl, rfl⟩ := trodAll_nil r1
  have hargs2 : args = #[v0, v1] := Array.toList_inj.1 hargs
  subst hargs2
  obtain ⟨a0, rfl, _, _, w0⟩ := open_int Try.underlying3 (hval 0 3 v0 rfl rfl) h0
  obtain ⟨A1, c1, l1, rfl, lc1, cm1, x1, g1⟩ := open_singlesA (reach_at hsz (j := 1) (t := 22) (by rw [Try.params5]; rfl) rfl) (hval 1 22 v1 rfl rfl) h1
  have b1 := len_reach Try.underlying22 (hval 1 22 _ rfl rfl) h1 hsz (j := 1) (by rw [Try.params5]; rfl) rfl
  rw [show Try.prog.bytesOf (Try.prog.elem 22) = 96 from by kernel_rfl] at b1
  refine (lawSingleOnces_any a0 A1 c1 l1 _ x1 (by omega) g1).mono fun e W' ⟨he, hb⟩ => ?_
  subst he
  exact ⟨_, rfl, law_post Try.laidOut rfl (by kernel_rfl) Try.underlying4 ⟨rfl, rfl, rfl⟩ (by kernel_rfl) hW' hb⟩

theorem singleOnces_holds : Rows.SingleOncesSaid :=
  OpenClaim.holds_of_wide 5 Try.f5 rfl rfl rfl rfl rfl rfl rfl ⟨rfl, rfl, rfl, rfl, rfl⟩ rfl rfl rfl rfl rfl (by kernel_rfl) Try.func5 (show joinedFacts Try.prog 5 Try.f5 Rows.singleOncesSpec Rows.singleOncesRow = true from (by unfold joinedFacts; (repeat' (with_reducible refine and_both ?_ ?_)) <;> first | (with_reducible exact may_enter) | ((with_reducible refine make_ok ?_); rfl) | ((with_reducible refine lifts_ok ?_); rfl) | kernel_rfl))
    (of_decide_eq_true (by kernel_rfl)) (by unfold Func.isWrapper; rw [if_neg (of_decide_eq_false (by kernel_rfl))]; exact ⟨rfl, rfl⟩)
    (fun os started H enc _ => lawSingleOnces_lifted os started H enc)

end Go.Proofs.Ytgcjknibelfjbaa
