/-
  block.Run returns what variables have where a program stops, and in which blocks it was (J1, J2), or the first error, for all arguments: codemasonlaw.BlockRuns returns true and leaves its arguments alone. No condition.
-/
import Derived.Test.YtfbpalgeajgbhaaLawBlock
import Derived.Test.YtfbpalgeajgbhaaBlock
namespace Go.Proofs.Ytfbpalgeajgbhaa
open Go.RowKit Go.ChangeShapes Go.WideShapes Go.ChangeAt Go.Deep
set_option linter.unusedSimpArgs false
set_option linter.unusedVariables false
set_option maxRecDepth 100000

theorem rdI_nil (w : World) (A : Option Addr) : RdI w w.heap.size A [] := fun h => by simp at h

set_option maxHeartbeats 4000000 in
theorem lawBlockRuns_any (K : BlockIs) (vars : Int) (A HA : Option Addr) (cap hcap : Nat) (p : List Bk) (hv : List Int) (w : World) (hx : RdP w w.heap.size A p) (hh : RdI w w.heap.size HA hv) (hm : p.length ≤ maxLen) (hin : ∀ b ∈ p, InBk b) (hhm : hv.length ≤ maxLen) :
    Calls Try.prog 7 #[.int .i64 vars, .slice A p.length cap, .slice HA hv.length hcap] w fun e w' => e = .returned (.bool true) ∧ Below w.heap.size w w' := by
  have HIN := Lib.hid hin
  have HM := Lib.hid hm
  have HHM := Lib.hid hhm
  clear hin hm hhm
  by_cases hc : ckGo vars p hv = 0
  · obtain ⟨hc1, hc2⟩ := ckGo_ok hc
    obtain ⟨n, rfl, hn1, hn6⟩ := ckProg_nat hc1
    have hvo := valsOk_of hc2
    have HC := Lib.hid hc
    have HC1 := Lib.hid hc1
    have HVO := Lib.hid hvo
    have hlen := hvo.1
    rw [hlen]
    have HLEN := Lib.hid hlen
    have hnm : n ≤ maxLen := by unfold maxLen; omega
    clear hc hc1 hc2 hvo hlen
    go_enter Try.func7, Try.ntmps7
    go_wp2_with fail
    refine (K.run n A HA _ cap hcap p hv _ hx hh rfl HC1.out HVO.out).mono ?_
    rintro e w1 ⟨hrt, hb1⟩
    have hx1 := (hx.below hb1 (Nat.le_refl _)).more hb1.size
    have hh1 := (hh.below hb1 (Nat.le_refl _)).more hb1.size
    have hs1 := hb1.size
    rcases hrt with ⟨hr, A1, A2, c1, c2, rfl⟩ | ⟨x, l, A1, A2, c1, c2, hr, rfl, hr1, hr2⟩
    · have HR := Lib.hid hr
      clear hr
      go_wp2_with fail
      refine (progCode_any n A HA _ cap n hcap p hv _ hx1 hh1 rfl HM.out HIN.out HLEN.out hnm).mono ?_
      rintro e w2 ⟨rfl, hb2⟩
      rw [HC.out]
      have hb12 := hb1.trans (hb2.mono hs1)
      have hx2 := (hx.below hb12 (Nat.le_refl _)).more hb12.size
      have hh2 := (hh.below hb12 (Nat.le_refl _)).more hb12.size
      go_wp2_with fail
      refine (refGoes_any n 200 A HA _ cap hcap p hv _ hx2 hh2 rfl HC1.out HVO.out (by omega)).mono ?_
      rintro e w3 ⟨hgt, hb3⟩
      have hb13 := hb12.trans (hb3.mono hb12.size)
      rcases hgt with ⟨_, rfl⟩ | ⟨x, l, A3, A4, c3, c4, hr, _, _, _⟩
      · go_wp2_with fail
        refine (ints_same A1 none 0 c1 0 [] _ (rdI_nil _ _) (rdI_nil _ _) rfl (Nat.zero_le _)).mono ?_
        rintro e w4 ⟨rfl, hb4⟩
        have hb14 := hb13.trans (hb4.mono hb13.size)
        go_wp2_with fail
        refine (ints_same A2 none 0 c2 0 [] _ (rdI_nil _ _) (rdI_nil _ _) rfl (Nat.zero_le _)).mono ?_
        rintro e w5 ⟨rfl, hb5⟩
        go_wp2
        go_ret
        exact ⟨ret_bool (by simp), hb14.trans (hb5.mono hb14.size)⟩
      · rw [HR.out] at hr; cases hr
    · obtain ⟨r, hlr, hrw, hll, hxo⟩ := goP_way HC1.out 200 0 hv x l (by have := (ckProg_bd HC1.out).2.2.1; omega) HVO.out hr
      have HR := Lib.hid hr
      have hxm : x.length ≤ maxLen := by rw [hxo.1]; exact hnm
      have hlm : l.length ≤ maxLen := by unfold maxLen; omega
      have HXM := Lib.hid hxm
      have HLM := Lib.hid hlm
      clear hr hlr hrw hll hxo hxm hlm
      go_wp2_with fail
      refine (progCode_any n A HA _ cap n hcap p hv _ hx1 hh1 rfl HM.out HIN.out HLEN.out hnm).mono ?_
      rintro e w2 ⟨rfl, hb2⟩
      rw [HC.out]
      have hb12 := hb1.trans (hb2.mono hs1)
      have hx2 := (hx.below hb12 (Nat.le_refl _)).more hb12.size
      have hh2 := (hh.below hb12 (Nat.le_refl _)).more hb12.size
      have hr12 := (hr1.below hb2 (Nat.le_refl _)).more hb2.size
      have hr22 := (hr2.below hb2 (Nat.le_refl _)).more hb2.size
      go_wp2_with fail
      refine (refGoes_any n 200 A HA _ cap hcap p hv _ hx2 hh2 rfl HC1.out HVO.out (by omega)).mono ?_
      rintro e w3 ⟨hgt, hb3⟩
      have hb13 := hb12.trans (hb3.mono hb12.size)
      rcases hgt with ⟨hr, _⟩ | ⟨x2, l2, A3, A4, c3, c4, hr, rfl, hr3, hr4⟩
      · rw [HR.out] at hr; cases hr
      · rw [HR.out] at hr
        injection hr with hr
        injection hr with e1 e2
        subst e1 e2
        have hr13 := (hr12.below hb3 (Nat.le_refl _)).more hb3.size
        have hr23 := (hr22.below hb3 (Nat.le_refl _)).more hb3.size
        go_wp2_with fail
        refine (ints_same A1 A3 _ c1 c3 x _ hr13 hr3 rfl HXM.out).mono ?_
        rintro e w4 ⟨rfl, hb4⟩
        have hb14 := hb13.trans (hb4.mono hb13.size)
        have hr24 := (hr23.below hb4 (Nat.le_refl _)).more hb4.size
        have hr44 := (hr4.below hb4 (Nat.le_refl _)).more hb4.size
        go_wp2_with fail
        refine (ints_same A2 A4 _ c2 c4 (ni l) _ hr24 hr44 (by simp [ni]) HLM.out).mono ?_
        rintro e w5 ⟨rfl, hb5⟩
        go_wp2
        go_ret
        exact ⟨ret_bool (by simp), hb14.trans (hb5.mono hb14.size)⟩
  · have HC := Lib.hid hc
    have hne : (ckGo vars p hv == 0) = false := by simp [hc]
    clear hc
    go_enter Try.func7, Try.ntmps7
    go_wp2_with fail
    refine (K.runBad vars A HA _ cap _ hcap p hv _ hx hh rfl HM.out HIN.out rfl HHM.out HC.out).mono ?_
    rintro e w1 ⟨A1, A2, c1, c2, rfl, hb1⟩
    have hx1 := (hx.below hb1 (Nat.le_refl _)).more hb1.size
    have hh1 := (hh.below hb1 (Nat.le_refl _)).more hb1.size
    go_wp2_with fail
    refine (progCode_any vars A HA _ cap _ hcap p hv _ hx1 hh1 rfl HM.out HIN.out rfl HHM.out).mono ?_
    rintro e w2 ⟨rfl, hb2⟩
    have hb12 := hb1.trans (hb2.mono hb1.size)
    go_wp2_with fail
    refine (ints_same A1 none 0 c1 0 [] _ (rdI_nil _ _) (rdI_nil _ _) rfl (Nat.zero_le _)).mono ?_
    rintro e w4 ⟨rfl, hb4⟩
    have hb14 := hb12.trans (hb4.mono hb12.size)
    go_wp2_with fail
    refine (ints_same A2 none 0 c2 0 [] _ (rdI_nil _ _) (rdI_nil _ _) rfl (Nat.zero_le _)).mono ?_
    rintro e w5 ⟨rfl, hb5⟩
    go_wp2
    go_ret
    exact ⟨ret_bool (by simp), hb14.trans (hb5.mono hb14.size)⟩

set_option maxRecDepth 100000 in
theorem lawBlockRuns_lifted (os : Os) (started : os.Started) (H : Type) (enc : TypeId × Value → H) :
    ReturnsInHanded {} Try.checked os 7 .any (Rows.blockRunsSpec.pre6 enc Try.prog Try.f7 Rows.blockRunsRow.domain false) (Rows.blockRunsSpec.post enc Try.prog Try.f7 false true false false) := by
  refine returnsInHanded_of_change_sized (C := Try.checked) Try.own started (by kernel_rfl) Try.func7
    (ChangeSpec.witness6 (enc := enc) (C := Try.checked) false ⟨#[], #[.int .i64 0, .slice none 0 0, .slice none 0 0], []⟩ 8 (by kernel_rfl) (by kernel_rfl) (by kernel_rfl) (by kernel_rfl)) ?_
  intro W base args ds gs before hval0 hW hcnd hsz _
  have hval : ∀ (j : Nat) t v, Try.f7.params[j]? = some t → args[j]? = some v → Value.okWide Try.prog W .any base t v := hval0
  have hW' := hW
  obtain ⟨p, q, hA0, hV, rfl, hfz, hnd⟩ := hW
  have hA : DataW.TrodAll enc Try.prog W 0 (fun _ => true) true Try.f7.params.toList args.toList ds p := hA0
  obtain ⟨hgs, _⟩ := trodVars_none hV
  rw [Try.params7] at hA hval
  obtain ⟨v0, vs0, d0, ds0, p0, q0, hargs, rfl, rfl, h0, r0⟩ := trodAll_cons hA
  obtain ⟨v1, vs1, d1, ds1, p1, q1, rfl, rfl, rfl, h1, r1⟩ := trodAll_cons r0
  obtain ⟨v2, vs2, d2, ds2, p2, q2, rfl, rfl, rfl, h2, r2⟩ := trodAll_cons r1
  obtain ⟨rfl, rfl, rfl⟩ := trodAll_nil r2
  have hargs2 : args = #[v0, v1, v2] := Array.toList_inj.1 hargs
  subst hargs2
  obtain ⟨a0, rfl, _, _, w0⟩ := open_int Try.underlying3 (hval 0 3 v0 rfl rfl) h0
  obtain ⟨A1, c1, l1, rfl, lc1, cm1, x1, g1⟩ := open_progA (reach_at hsz (j := 1) (t := 39) (by rw [Try.params7]; rfl) rfl) (hval 1 39 v1 rfl rfl) h1
  have b1 := len_reach Try.underlying39 (hval 1 39 _ rfl rfl) h1 hsz (j := 1) (by rw [Try.params7]; rfl) rfl
  rw [show Try.prog.bytesOf (Try.prog.elem 39) = 48 from by kernel_rfl] at b1
  obtain ⟨A2, c2, l2, rfl, lc2, cm2, x2, r2⟩ := open_intsA (hval 2 23 v2 rfl rfl) h2
  have b2 := len_reach Try.underlying23 (hval 2 23 _ rfl rfl) h2 hsz (j := 2) (by rw [Try.params7]; rfl) rfl
  rw [show Try.prog.bytesOf (Try.prog.elem 23) = 8 from by kernel_rfl] at b2
  refine (lawBlockRuns_any blockIs a0 A1 A2 c1 c2 l1 l2 _ x1 x2 (by omega) g1 (by omega)).mono fun e W' ⟨he, hb⟩ => ?_
  subst he
  exact ⟨_, rfl, law_post Try.laidOut rfl (by kernel_rfl) Try.underlying4 ⟨rfl, rfl, rfl⟩ (by kernel_rfl) hW' hb⟩

theorem blockRuns_holds : Rows.BlockRunsSaid :=
  OpenClaim.holds_of_wide 7 Try.f7 rfl rfl rfl rfl rfl rfl rfl ⟨rfl, rfl, rfl, rfl, rfl⟩ rfl rfl rfl rfl rfl (by kernel_rfl) Try.func7 (show joinedFacts Try.prog 7 Try.f7 Rows.blockRunsSpec Rows.blockRunsRow = true from (by unfold joinedFacts; (repeat' (with_reducible refine and_both ?_ ?_)) <;> first | (with_reducible exact may_enter) | ((with_reducible refine make_ok ?_); rfl) | ((with_reducible refine lifts_ok ?_); rfl) | kernel_rfl))
    (of_decide_eq_true (by kernel_rfl)) (by unfold Func.isWrapper; rw [if_neg (of_decide_eq_false (by kernel_rfl))]; exact ⟨rfl, rfl⟩)
    (fun os started H enc _ => lawBlockRuns_lifted os started H enc)

end Go.Proofs.Ytfbpalgeajgbhaa
