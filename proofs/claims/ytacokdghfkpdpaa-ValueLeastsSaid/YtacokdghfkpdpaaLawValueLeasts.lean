/-
  value.Least returns the least terms that D1 gives, or the first error, for all arguments: codemasonlaw.ValueLeasts returns true and leaves its arguments alone. No condition.
-/
import Derived.Test.YtacokdghfkpdpaaValue
import Derived.Test.YtacokdghfkpdpaaLeastRef
import Derived.Test.YtacokdghfkpdpaaTermsRef
import Derived.Test.YtacokdghfkpdpaaTermsSame
import Derived.Test.YtacokdghfkpdpaaLaw
namespace Go.Proofs.Ytacokdghfkpdpaa
open Go.RowKit Go.ChangeShapes Go.WideShapes Go.ChangeAt Go.Deep
set_option linter.unusedSimpArgs false
set_option linter.unusedVariables false
set_option maxRecDepth 100000

set_option maxHeartbeats 4000000 in
theorem lawValueLeasts_any (vars : Int) (A : Option Addr) (cap : Nat) (l : List Tm) (w : World) (hx : RdT w w.heap.size A l) :
    Calls Try.prog 5 #[.int .i64 vars, .slice A l.length cap] w fun e w' => e = .returned (.bool true) ∧ Below w.heap.size w w' := by
  generalize hl : l.length = len at *
  have HL := Lib.hid hl
  by_cases hc : ckTerms vars l = 0
  · have HC := Lib.hid hc
    have hm : (lsL l).length ≤ maxLen := by have := ls_len hc; have := ckTerms_bd hc; unfold maxLen; omega
    obtain ⟨n, hn⟩ : ∃ n, (lsL l).length = n := ⟨_, rfl⟩
    have HN := Lib.hid hn
    rw [hn] at hm
    clear hc hl hn
    go_enter Try.func5, Try.ntmps5
    go_wp2_with fail
    refine (vleast_ok vars A len cap l _ hx HL.out HC.out).mono ?_
    rintro e w1 ⟨A1, c1, rfl, hr1, hb1⟩
    rw [HN.out]
    go_wp2_with fail
    refine (termsCheck_any vars A len cap l _ ((hx.below hb1 (Nat.le_refl _)).more hb1.size) HL.out).mono ?_
    rintro e w2 ⟨rfl, hb2⟩
    rw [HC.out]
    have hbw := hb1.trans (hb2.mono hb1.size)
    have hr2 := (hr1.below hb2 (Nat.le_refl _)).more hb2.size
    go_wp2_with fail
    refine (refLeast_any vars A len cap l _ ((hx.below hbw (Nat.le_refl _)).more hbw.size) HL.out HC.out).mono ?_
    rintro e w3 ⟨A3, c3, rfl, hr3, hb3⟩
    rw [HN.out]
    go_wp2_with fail
    refine (terms_same A1 A3 n c1 c3 (lsL l) _ ((hr2.below hb3 (Nat.le_refl _)).more hb3.size) hr3 HN.out hm).mono ?_
    rintro e w4 ⟨rfl, hb4⟩
    go_wp2_with fail
    go_ret
    exact ⟨ret_bool (by simp), hbw.trans ((hb3.mono hbw.size).trans (hb4.mono (Nat.le_trans hbw.size hb3.size)))⟩
  · have HC := Lib.hid hc
    have e3 : (ckTerms vars l != 0) = true := by simp [hc]
    have e4 : (ckTerms vars l == 0) = false := by simp [hc]
    clear hc hl
    go_enter Try.func5, Try.ntmps5
    go_wp2_with fail
    refine (vleast_bad vars A len cap l _ hx HL.out HC.out).mono ?_
    rintro e w1 ⟨rfl, hb1⟩
    go_wp2_with fail
    refine (termsCheck_any vars A len cap l _ ((hx.below hb1 (Nat.le_refl _)).more hb1.size) HL.out).mono ?_
    rintro e w2 ⟨rfl, hb2⟩
    go_wp2_with fail
    go_ret
    exact ⟨ret_bool (by simp), hb1.trans (hb2.mono hb1.size)⟩

set_option maxRecDepth 100000 in
theorem lawValueLeasts_lifted (os : Os) (started : os.Started) (H : Type) (enc : TypeId × Value → H) :
    ReturnsInHanded {} Try.checked os 5 .any (Rows.valueLeastsSpec.pre6 enc Try.prog Try.f5 Rows.valueLeastsRow.domain false) (Rows.valueLeastsSpec.post enc Try.prog Try.f5 false true false false) := by
  refine returnsInHanded_of_change_sized (C := Try.checked) Try.own started (by kernel_rfl) Try.func5
    (ChangeSpec.witness6 (enc := enc) (C := Try.checked) false ⟨#[], #[.int .i64 0, .slice none 0 0], []⟩ 8 (by kernel_rfl) (by kernel_rfl) (by kernel_rfl) (by kernel_rfl)) ?_
  intro W base args ds gs before hval0 hW hcnd hsz _
  have hval : ∀ (j : Nat) t v, Try.f5.params[j]? = some t → args[j]? = some v → Value.okWide Try.prog W .any base t v := hval0
  have hW' := hW
  obtain ⟨p, q, hA0, hV, rfl, hfz, hnd⟩ := hW
  have hA : DataW.TrodAll enc Try.prog W 0 (fun _ => true) true Try.f5.params.toList args.toList ds p := hA0
  obtain ⟨hgs, _⟩ := trodVars_none hV
  rw [Try.params5] at hA hval
  obtain ⟨v0, vs0, d0, ds0, p0, q0, hargs, rfl, rfl, h0, r0⟩ := trodAll_cons hA
  obtain ⟨v1, vs1, d1, ds1, p1, q1, rfl, rfl, rfl, h1, r1⟩ := trodAll_cons r0
  obtain ⟨rfl, rfl, rfl⟩ := trodAll_nil r1
  have hargs2 : args = #[v0, v1] := Array.toList_inj.1 hargs
  subst hargs2
  obtain ⟨a0, rfl, _, _, w0⟩ := open_int Try.underlying3 (hval 0 3 v0 rfl rfl) h0
  obtain ⟨A1, c1, l1, rfl, lc1, cm1, x1, r1⟩ := open_termsA (hval 1 22 v1 rfl rfl) h1
  have b1 := len_reach Try.underlying22 (hval 1 22 _ rfl rfl) h1 hsz (j := 1) (by rw [Try.params5]; rfl) rfl
  rw [show Try.prog.bytesOf (Try.prog.elem 22) = 32 from by kernel_rfl] at b1
  refine (lawValueLeasts_any a0 A1 c1 l1 W x1).mono fun e W' ⟨he, hb⟩ => ?_
  subst he
  exact ⟨_, rfl, law_post Try.laidOut rfl (by kernel_rfl) Try.underlying4 ⟨rfl, rfl, rfl⟩ (by kernel_rfl) hW' hb⟩

theorem valueLeasts_holds : Rows.ValueLeastsSaid :=
  OpenClaim.holds_of_wide 5 Try.f5 rfl rfl rfl rfl rfl rfl rfl ⟨rfl, rfl, rfl, rfl, rfl⟩ rfl rfl rfl rfl rfl (by kernel_rfl) Try.func5 (show joinedFacts Try.prog 5 Try.f5 Rows.valueLeastsSpec Rows.valueLeastsRow = true from (by unfold joinedFacts; (repeat' (with_reducible refine and_both ?_ ?_)) <;> first | (with_reducible exact may_enter) | ((with_reducible refine make_ok ?_); rfl) | ((with_reducible refine lifts_ok ?_); rfl) | kernel_rfl))
    (of_decide_eq_true (by kernel_rfl)) (by unfold Func.isWrapper; rw [if_neg (of_decide_eq_false (by kernel_rfl))]; exact ⟨rfl, rfl⟩)
    (fun os started H enc _ => lawValueLeasts_lifted os started H enc)

end Go.Proofs.Ytacokdghfkpdpaa
