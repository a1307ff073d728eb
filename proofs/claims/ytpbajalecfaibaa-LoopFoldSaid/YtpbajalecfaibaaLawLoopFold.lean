/-
  A graph is reducible if and only if the transformations reduce it to one node, never to two (Hecht and Ullman): codemasonkeep.LoopFold returns true and leaves its arguments alone. No condition.
-/
import Derived.Test.YtpbajalecfaibaaLawLoop
import Derived.Test.YtpbajalecfaibaaLoopFold
namespace Go.Proofs.Ytpbajalecfaibaa
open Go.RowKit Go.ChangeShapes Go.WideShapes Go.ChangeAt Go.Deep
set_option linter.unusedSimpArgs false
set_option linter.unusedVariables false
set_option maxRecDepth 100000

set_option maxHeartbeats 4000000 in
theorem lawLoopFold_any (K : LoopIs) (A : Option Addr) (cap : Nat) (nx : List (List Int)) (w : World) (hx : RdG w w.heap.size A nx) (hm : nx.length ≤ maxLen) :
    Calls Try.prog 10 #[.slice A nx.length cap] w fun e w' => e = .returned (.bool true) ∧ Below w.heap.size w w' := by
  have HM := Lib.hid hm
  unfold maxLen at hm
  by_cases hc : ckWay nx = 0
  · have HC := Lib.hid hc
    clear hc
    go_enter Try.func10, Try.ntmps10
    go_wp2_with fail
    refine (K.tame A _ cap nx _ hx rfl HC.out).mono ?_
    rintro e w1 ⟨T, hT, rfl, hb1⟩
    have hx1 := (hx.below hb1 (Nat.le_refl _)).more hb1.size
    have HT := Lib.hid hT
    clear hT
    go_wp2_with fail
    refine (K.fold A _ cap nx _ hx1 rfl HC.out).mono ?_
    rintro e w2 ⟨k, hk, rfl, hb2⟩
    have hx2 := (hx1.below hb2 (Nat.le_refl _)).more hb2.size
    have hb12 := hb1.trans (hb2.mono hb1.size)
    obtain ⟨f1, f2, f3⟩ := folds_tame HC.out hk
    have f4 := Lib.hid (HT.out.trans f1)
    clear hk f1
    go_wp2_with fail
    refine (may_any A _ cap nx _ hx2 rfl HM.out).mono ?_
    rintro e w3 ⟨rfl, rfl⟩
    rw [HC.out]
    have e2 : ((k : Int) != 2) = true := by simp; omega
    have e3 : decide ((1 : Int) ≤ (k : Int)) = true := by simp; omega
    by_cases h1 : k = 1
    · have hT : T = true := f4.out.2 h1
      subst hT h1
      clear f2 f3
      go_wp2
      go_ret
      exact ⟨ret_bool (by simp), hb12⟩
    · have hT : T = false := by
        cases T with
        | false => rfl
        | true => exact absurd (f4.out.1 rfl) h1
      subst hT
      have e1 : ((k : Int) == 1) = false := by simp; omega
      clear f2 f3 h1
      go_wp2
      go_ret
      exact ⟨ret_bool (by simp), hb12⟩
  · have hne : (ckWay nx != 0) = true := by simp [hc]
    have HC := Lib.hid hc
    clear hc
    go_enter Try.func10, Try.ntmps10
    go_wp2_with fail
    refine (K.tameBad A _ cap nx _ hx rfl HM.out HC.out).mono ?_
    rintro e w1 ⟨rfl, hb1⟩
    have hx1 := (hx.below hb1 (Nat.le_refl _)).more hb1.size
    go_wp2_with fail
    refine (K.foldBad A _ cap nx _ hx1 rfl HM.out HC.out).mono ?_
    rintro e w2 ⟨rfl, hb2⟩
    have hx2 := (hx1.below hb2 (Nat.le_refl _)).more hb2.size
    have hb12 := hb1.trans (hb2.mono hb1.size)
    go_wp2_with fail
    refine (may_any A _ cap nx _ hx2 rfl HM.out).mono ?_
    rintro e w3 ⟨rfl, rfl⟩
    rw [show decide (ckWay nx = 0) = false from decide_eq_false HC.out]
    go_wp2
    go_ret
    exact ⟨ret_bool (by simp), hb12⟩

set_option maxRecDepth 100000 in
theorem lawLoopFold_lifted (os : Os) (started : os.Started) (H : Type) (enc : TypeId × Value → H) :
    ReturnsInHanded {} Try.checked os 10 .any (Rows.loopFoldSpec.pre6 enc Try.prog Try.f10 Rows.loopFoldRow.domain false) (Rows.loopFoldSpec.post enc Try.prog Try.f10 false true false false) := by
  refine returnsInHanded_of_change_sized (C := Try.checked) Try.own started (by kernel_rfl) Try.func10
    (ChangeSpec.witness6 (enc := enc) (C := Try.checked) false ⟨#[], #[.slice none 0 0], []⟩ 8 (by kernel_rfl) (by kernel_rfl) (by kernel_rfl) (by kernel_rfl)) ?_
  intro W base args ds gs before hval0 hW hcnd hsz _
  have hval : ∀ (j : Nat) t v, Try.f10.params[j]? = some t → args[j]? = some v → Value.okWide Try.prog W .any base t v := hval0
  have hW' := hW
  obtain ⟨p, q, hA0, hV, rfl, hfz, hnd⟩ := hW
  have hA : DataW.TrodAll enc Try.prog W 0 (fun _ => true) true Try.f10.params.toList args.toList ds p := hA0
  obtain ⟨hgs, _⟩ := trodVars_none hV
  rw [Try.params10] at hA hval
  obtain ⟨v0, vs0, d0, ds0, p0, q0, hargs, rfl, rfl, h0, r0⟩ := trodAll_cons hA
  obtain ⟨rfl, rfl, rfl⟩ := trodAll_nil r0
  have hargs2 : args = #[v0] := Array.toList_inj.1 hargs
  subst hargs2
  obtain ⟨A0, c0, l0, rfl, lc0, cm0, x0, r0⟩ := open_graphA (hval 0 22 v0 rfl rfl) h0
  have b0 := len_reach Try.underlying22 (hval 0 22 _ rfl rfl) h0 hsz (j := 0) (by rw [Try.params10]; rfl) rfl
  rw [show Try.prog.bytesOf (Try.prog.elem 22) = 24 from by kernel_rfl] at b0
  refine (lawLoopFold_any loopIs A0 c0 l0 _ x0 (by omega)).mono fun e W' ⟨he, hb⟩ => ?_
  subst he
  exact ⟨_, rfl, law_post Try.laidOut rfl (by kernel_rfl) Try.underlying4 ⟨rfl, rfl, rfl⟩ (by kernel_rfl) hW' hb⟩

theorem loopFold_holds : Rows.LoopFoldSaid :=
  OpenClaim.holds_of_wide 10 Try.f10 rfl rfl rfl rfl rfl rfl rfl ⟨rfl, rfl, rfl, rfl, rfl⟩ rfl rfl rfl rfl rfl (by kernel_rfl) Try.func10 (show joinedFacts Try.prog 10 Try.f10 Rows.loopFoldSpec Rows.loopFoldRow = true from (by unfold joinedFacts; (repeat' (with_reducible refine and_both ?_ ?_)) <;> first | (with_reducible exact may_enter) | ((with_reducible refine make_ok ?_); rfl) | ((with_reducible refine lifts_ok ?_); rfl) | kernel_rfl))
    (of_decide_eq_true (by kernel_rfl)) (by unfold Func.isWrapper; rw [if_neg (of_decide_eq_false (by kernel_rfl))]; exact ⟨rfl, rfl⟩)
    (fun os started H enc _ => lawLoopFold_lifted os started H enc)

end Go.Proofs.Ytpbajalecfaibaa
