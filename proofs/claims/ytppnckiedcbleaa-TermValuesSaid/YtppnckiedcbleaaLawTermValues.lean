/-
  term.Value returns what A1 and A2 ask, for all arguments: codemasonlaw.TermValues returns true and leaves its arguments alone. No condition.
-/
import Derived.Test.YtppnckiedcbleaaTermValue
import Derived.Test.YtppnckiedcbleaaTermsRef
import Derived.Test.YtppnckiedcbleaaLaw
namespace Go.Proofs.Ytppnckiedcbleaa
open Go.RowKit Go.ChangeShapes Go.WideShapes Go.ChangeAt Go.Deep
set_option linter.unusedSimpArgs false
set_option linter.unusedVariables false
set_option maxRecDepth 100000

set_option maxHeartbeats 1000000 in
theorem termCode_any (vars : Int) (A HA : Option Addr) (cap hcap : Nat) (l : List Tm) (xs : List Int) (w : World) (hx : RdT w w.heap.size A l) (hh : RdI w w.heap.size HA xs) (hhm : xs.length ≤ maxLen) :
    Calls Try.prog 26 #[.int .i64 vars, .slice A l.length cap, .slice HA xs.length hcap] w fun e w' => e = .returned (.int .i64 (ckVal vars l xs)) ∧ Below w.heap.size w w' := by
  by_cases h1 : ckTerms vars l = 0
  · have e1 : (ckTerms vars l == 0) = true := by simp [h1]
    have HF := Lib.hid (show ckVal vars l xs = ckHave vars xs by unfold ckVal; rw [if_pos h1])
    clear h1
    go_enter Try.func26, Try.ntmps26
    go_wp2_with fail
    refine (termsCheck_any vars A _ cap l _ hx rfl).mono ?_
    rintro e w1 ⟨rfl, hb1⟩
    go_wp2_with fail
    refine (haveCheck_any vars HA _ hcap xs _ _ (hh.below hb1 (Nat.le_refl _)) rfl hhm).mono ?_
    rintro e w2 ⟨rfl, rfl⟩
    go_wp2_with fail
    go_ret
    exact ⟨ret_int HF.out.symm, hb1⟩
  · have e1 : (ckTerms vars l == 0) = false := by simp [h1]
    have HF := Lib.hid (show ckVal vars l xs = ckTerms vars l by unfold ckVal; rw [if_neg h1])
    clear h1
    go_enter Try.func26, Try.ntmps26
    go_wp2_with fail
    refine (termsCheck_any vars A _ cap l _ hx rfl).mono ?_
    rintro e w1 ⟨rfl, hb1⟩
    go_wp2_with fail
    go_ret
    exact ⟨ret_int HF.out.symm, hb1⟩

set_option maxHeartbeats 1000000 in
theorem lawTermValues_any (vars : Int) (A HA : Option Addr) (cap hcap : Nat) (l : List Tm) (xs : List Int) (w : World) (hx : RdT w w.heap.size A l) (hh : RdI w w.heap.size HA xs) (hhm : xs.length ≤ maxLen) :
    Calls Try.prog 4 #[.int .i64 vars, .slice A l.length cap, .slice HA xs.length hcap] w fun e w' => e = .returned (.bool true) ∧ Below w.heap.size w w' := by
  by_cases h0 : ckVal vars l xs = 0
  · have h1 : ckTerms vars l = 0 := by unfold ckVal at h0; split at h0 <;> assumption
    have h2 : ckHave vars xs = 0 := by unfold ckVal at h0; rw [if_pos h1] at h0; exact h0
    have H0 := Lib.hid h0
    have H1 := Lib.hid h1
    have H2 := Lib.hid h2
    clear h0 h1 h2
    go_enter Try.func4, Try.ntmps4
    go_wp2_with fail
    refine (value_ok vars A HA _ cap hcap l xs _ hx hh rfl H1.out H2.out).mono ?_
    rintro e w1 ⟨rfl, hb1⟩
    go_wp2_with fail
    refine (termCode_any vars A HA cap hcap l xs _ ((hx.below hb1 (Nat.le_refl _)).more hb1.size) ((hh.below hb1 (Nat.le_refl _)).more hb1.size) hhm).mono ?_
    rintro e w2 ⟨rfl, hb2⟩
    rw [H0.out]
    have hbw := hb1.trans (hb2.mono hb1.size)
    go_wp2_with fail
    refine (refTerm_any vars A HA _ cap hcap l xs _ ((hx.below hbw (Nat.le_refl _)).more hbw.size) ((hh.below hbw (Nat.le_refl _)).more hbw.size) rfl H1.out H2.out).mono ?_
    rintro e w3 ⟨rfl, hb3⟩
    go_wp2_with fail
    go_ret
    exact ⟨ret_bool (by simp), hbw.trans (hb3.mono hbw.size)⟩
  · have e1 : (ckVal vars l xs != 0) = true := by simp [h0]
    have hc : ckTerms vars l ≠ 0 ∨ ckHave vars xs ≠ 0 := by unfold ckVal at h0; split at h0 <;> omega
    have HC := Lib.hid hc
    clear h0 hc
    go_enter Try.func4, Try.ntmps4
    go_wp2_with fail
    refine (value_bad vars A HA _ cap hcap l xs _ hx hh rfl hhm HC.out).mono ?_
    rintro e w1 ⟨rfl, hb1⟩
    go_wp2_with fail
    refine (termCode_any vars A HA cap hcap l xs _ ((hx.below hb1 (Nat.le_refl _)).more hb1.size) ((hh.below hb1 (Nat.le_refl _)).more hb1.size) hhm).mono ?_
    rintro e w2 ⟨rfl, hb2⟩
    have hbw := hb1.trans (hb2.mono hb1.size)
    go_wp2_with fail
    go_ret
    exact ⟨ret_bool (by simp), hbw⟩

set_option maxRecDepth 100000 in
theorem lawTermValues_lifted (os : Os) (started : os.Started) (H : Type) (enc : TypeId × Value → H) :
    ReturnsInHanded {} Try.checked os 4 .any (Rows.termValuesSpec.pre6 enc Try.prog Try.f4 Rows.termValuesRow.domain false) (Rows.termValuesSpec.post enc Try.prog Try.f4 false true false false) := by
  refine returnsInHanded_of_change_sized (C := Try.checked) Try.own started (by kernel_rfl) Try.func4
    (ChangeSpec.witness6 (enc := enc) (C := Try.checked) false ⟨#[], #[.int .i64 0, .slice none 0 0, .slice none 0 0], []⟩ 8 (by kernel_rfl) (by kernel_rfl) (by kernel_rfl) (by kernel_rfl)) ?_
  intro W base args ds gs before hval0 hW hcnd hsz _
  have hval : ∀ (j : Nat) t v, Try.f4.params[j]? = some t → args[j]? = some v → Value.okWide Try.prog W .any base t v := hval0
  have hW' := hW
  obtain ⟨p, q, hA0, hV, rfl, hfz, hnd⟩ := hW
  have hA : DataW.TrodAll enc Try.prog W 0 (fun _ => true) true Try.f4.params.toList args.toList ds p := hA0
  obtain ⟨hgs, _⟩ := trodVars_none hV
  rw [Try.params4] at hA hval
  obtain ⟨v0, vs0, d0, ds0, p0, q0, hargs, rfl, rfl, h0, r0⟩ := trodAll_cons hA
  obtain ⟨v1, vs1, d1, ds1, p1, q1, rfl, rfl, rfl, h1, r1⟩ := trodAll_cons r0
  obtain ⟨v2, vs2, d2, ds2, p2, q2, rfl, rfl, rfl, h2, r2⟩ := trodAll_cons r1
  obtain ⟨rfl, rfl, rfl⟩ := trodAll_nil r2
  have hargs2 : args = #[v0, v1, v2] := Array.toList_inj.1 hargs
  subst hargs2
  obtain ⟨a0, rfl, _, _, w0⟩ := open_int Try.underlying3 (hval 0 3 v0 rfl rfl) h0
  obtain ⟨A1, c1, l1, rfl, lc1, cm1, x1, r1⟩ := open_termsA (hval 1 22 v1 rfl rfl) h1
  have b1 := len_reach Try.underlying22 (hval 1 22 _ rfl rfl) h1 hsz (j := 1) (by rw [Try.params4]; rfl) rfl
  rw [show Try.prog.bytesOf (Try.prog.elem 22) = 32 from by kernel_rfl] at b1
  obtain ⟨A2, c2, l2, rfl, lc2, cm2, x2, r2⟩ := open_intsA (hval 2 26 v2 rfl rfl) h2
  have b2 := len_reach Try.underlying26 (hval 2 26 _ rfl rfl) h2 hsz (j := 2) (by rw [Try.params4]; rfl) rfl
  rw [show Try.prog.bytesOf (Try.prog.elem 26) = 8 from by kernel_rfl] at b2
  refine (lawTermValues_any a0 A1 A2 c1 c2 l1 l2 W x1 x2 (by omega)).mono fun e W' ⟨he, hb⟩ => ?_
  subst he
  exact ⟨_, rfl, law_post Try.laidOut rfl (by kernel_rfl) Try.underlying4 ⟨rfl, rfl, rfl⟩ (by kernel_rfl) hW' hb⟩

theorem termValues_holds : Rows.TermValuesSaid :=
  OpenClaim.holds_of_wide 4 Try.f4 rfl rfl rfl rfl rfl rfl rfl ⟨rfl, rfl, rfl, rfl, rfl⟩ rfl rfl rfl rfl rfl (by kernel_rfl) Try.func4 (show joinedFacts Try.prog 4 Try.f4 Rows.termValuesSpec Rows.termValuesRow = true from (by unfold joinedFacts; (repeat' (with_reducible refine and_both ?_ ?_)) <;> first | (with_reducible exact may_enter) | ((with_reducible refine make_ok ?_); rfl) | ((with_reducible refine lifts_ok ?_); rfl) | kernel_rfl))
    (of_decide_eq_true (by kernel_rfl)) (by unfold Func.isWrapper; rw [if_neg (of_decide_eq_false (by kernel_rfl))]; exact ⟨rfl, rfl⟩)
    (fun os started H enc _ => lawTermValues_lifted os started H enc)

end Go.Proofs.Ytppnckiedcbleaa
