/-
  block.Way returns where one may go (J2), or the first error, for all arguments: codemasonlaw.BlockWays returns true and leaves its arguments alone. No condition.
-/
import Derived.Test.YtfbpalgeajgbhaaLawBlock
import Derived.Test.YtfbpalgeajgbhaaBlock
namespace Go.Proofs.Ytfbpalgeajgbhaa
open Go.RowKit Go.ChangeShapes Go.WideShapes Go.ChangeAt Go.Deep
set_option linter.unusedSimpArgs false
set_option linter.unusedVariables false
set_option maxRecDepth 100000

set_option maxHeartbeats 2000000 in
theorem lawBlockWays_any (K : BlockIs) (vars : Int) (A : Option Addr) (cap : Nat) (p : List Bk) (w : World) (hx : RdP w w.heap.size A p) (hm : p.length ≤ maxLen) (hin : ∀ b ∈ p, InBk b) :
    Calls Try.prog 6 #[.int .i64 vars, .slice A p.length cap] w fun e w' => e = .returned (.bool true) ∧ Below w.heap.size w w' := by
  have HIN := Lib.hid hin
  have HM := Lib.hid hm
  clear hin hm
  by_cases hc : ckProg vars p = 0
  · obtain ⟨n, rfl, hn1, hn6⟩ := ckProg_nat hc
    obtain ⟨_, _, b3, b4, _, _⟩ := ckProg_bd hc
    have HC := Lib.hid hc
    clear hc
    go_enter Try.func6, Try.ntmps6
    go_wp2_with fail
    refine (K.way n A _ cap p _ hx rfl HC.out).mono ?_
    rintro e w1 ⟨A1, c1, rfl, hr1, hb1⟩
    have hx1 := (hx.below hb1 (Nat.le_refl _)).more hb1.size
    go_wp2_with fail
    refine (refProgCheck_any n A _ cap p _ hx1 rfl HM.out HIN.out).mono ?_
    rintro e w2 ⟨rfl, hb2⟩
    rw [HC.out]
    have hb12 := hb1.trans (hb2.mono hb1.size)
    have hx2 := (hx.below hb12 (Nat.le_refl _)).more hb12.size
    have hr2 := (hr1.below hb2 (Nat.le_refl _)).more hb2.size
    go_wp2_with fail
    refine (refNexts_any A _ cap p _ hx2 rfl b4).mono ?_
    rintro e w3 ⟨A3, c3, rfl, hr3, hb3⟩
    have hb13 := hb12.trans (hb3.mono hb12.size)
    have hr23 := (hr2.below hb3 (Nat.le_refl _)).more hb3.size
    go_wp2_with fail
    refine (lists_same A1 A3 _ c1 c3 (nxP p) _ hr23 hr3 (nxP_len p) HM.out (nxP_rows p)).mono ?_
    rintro e w4 ⟨rfl, hb4⟩
    go_wp2
    go_ret
    exact ⟨ret_bool (by simp), hb13.trans (hb4.mono hb13.size)⟩
  · have HC := Lib.hid hc
    have hne : (ckProg vars p != 0) = true := by simp [hc]
    clear hc
    go_enter Try.func6, Try.ntmps6
    go_wp2_with fail
    refine (K.wayBad vars A _ cap p _ hx rfl HM.out HIN.out HC.out).mono ?_
    rintro e w1 ⟨A1, c1, rfl, hb1⟩
    have hx1 := (hx.below hb1 (Nat.le_refl _)).more hb1.size
    go_wp2_with fail
    refine (refProgCheck_any vars A _ cap p _ hx1 rfl HM.out HIN.out).mono ?_
    rintro e w2 ⟨rfl, hb2⟩
    go_wp2
    go_ret
    exact ⟨ret_bool (by simp), hb1.trans (hb2.mono hb1.size)⟩

set_option maxRecDepth 100000 in
theorem lawBlockWays_lifted (os : Os) (started : os.Started) (H : Type) (enc : TypeId × Value → H) :
    ReturnsInHanded {} Try.checked os 6 .any (Rows.blockWaysSpec.pre6 enc Try.prog Try.f6 Rows.blockWaysRow.domain false) (Rows.blockWaysSpec.post enc Try.prog Try.f6 false true false false) := by
  refine returnsInHanded_of_change_sized (C := Try.checked) Try.own started (by kernel_rfl) Try.func6
    (ChangeSpec.witness6 (enc := enc) (C := Try.checked) false ⟨#[], #[.int .i64 0, .slice none 0 0], []⟩ 8 (by kernel_rfl) (by kernel_rfl) (by kernel_rfl) (by kernel_rfl)) ?_
  intro W base args ds gs before hval0 hW hcnd hsz _
  have hval : ∀ (j : Nat) t v, Try.f6.params[j]? = some t → args[j]? = some v → Value.okWide Try.prog W .any base t v := hval0
  have hW' := hW
  obtain ⟨p, q, hA0, hV, rfl, hfz, hnd⟩ := hW
  have hA : DataW.TrodAll enc Try.prog W 0 (fun _ => true) true Try.f6.params.toList args.toList ds p := hA0
  obtain ⟨hgs, _⟩ := trodVars_none hV
  rw [Try.params6] at hA hval
  obtain ⟨v0, vs0, d0, ds0, p0, q0, hargs, rfl, rfl, h0, r0⟩ := trodAll_cons hA
  obtain ⟨v1, vs1, d1, ds1, p1, q1, rfl, rfl, rfl, h1, r1⟩ := trodAll_cons r0
  obtain ⟨rfl, rfl, rfl⟩ := trodAll_nil r1
  have hargs2 : args = #[v0, v1] := Array.toList_inj.1 hargs
  subst hargs2
  obtain ⟨a0, rfl, _, _, w0⟩ := open_int Try.underlying3 (hval 0 3 v0 rfl rfl) h0
  obtain ⟨A1, c1, l1, rfl, lc1, cm1, x1, g1⟩ := open_progA (reach_at hsz (j := 1) (t := 39) (by rw [Try.params6]; rfl) rfl) (hval 1 39 v1 rfl rfl) h1
  have b1 := len_reach Try.underlying39 (hval 1 39 _ rfl rfl) h1 hsz (j := 1) (by rw [Try.params6]; rfl) rfl
  rw [show Try.prog.bytesOf (Try.prog.elem 39) = 48 from by kernel_rfl] at b1
  refine (lawBlockWays_any blockIs a0 A1 c1 l1 _ x1 (by omega) g1).mono fun e W' ⟨he, hb⟩ => ?_
  subst he
  exact ⟨_, rfl, law_post Try.laidOut rfl (by kernel_rfl) Try.underlying4 ⟨rfl, rfl, rfl⟩ (by kernel_rfl) hW' hb⟩

theorem blockWays_holds : Rows.BlockWaysSaid :=
  OpenClaim.holds_of_wide 6 Try.f6 rfl rfl rfl rfl rfl rfl rfl ⟨rfl, rfl, rfl, rfl, rfl⟩ rfl rfl rfl rfl rfl (by kernel_rfl) Try.func6 (show joinedFacts Try.prog 6 Try.f6 Rows.blockWaysSpec Rows.blockWaysRow = true from (by unfold joinedFacts; (repeat' (with_reducible refine and_both ?_ ?_)) <;> first | (with_reducible exact may_enter) | ((with_reducible refine make_ok ?_); rfl) | ((with_reducible refine lifts_ok ?_); rfl) | kernel_rfl))
    (of_decide_eq_true (by kernel_rfl)) (by unfold Func.isWrapper; rw [if_neg (of_decide_eq_false (by kernel_rfl))]; exact ⟨rfl, rfl⟩)
    (fun os started H enc _ => lawBlockWays_lifted os started H enc)

end Go.Proofs.Ytfbpalgeajgbhaa
