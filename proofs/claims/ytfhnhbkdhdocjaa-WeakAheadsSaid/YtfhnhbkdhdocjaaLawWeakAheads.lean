/-
  weak.Ahead tells terms that stand, for all values, for what the given ones stand for behind the steps (Hoare; Dijkstra; S1): codemasonlaw.WeakAheads returns true and leaves its arguments alone. No condition.
-/
import Derived.Test.YtfhnhbkdhdocjaaMWeak
import Derived.Test.YtfhnhbkdhdocjaaTermsRef
import Derived.Test.YtfhnhbkdhdocjaaBlockDo
import Derived.Test.YtfhnhbkdhdocjaaBlockOpen
import Derived.BigQuiet
namespace Go.Proofs.Ytfhnhbkdhdocjaa
open Go.RowKit Go.ChangeShapes Go.WideShapes Go.ChangeAt Go.Deep
set_option linter.unusedSimpArgs false
set_option linter.unusedVariables false
set_option maxRecDepth 100000

set_option maxHeartbeats 16000000 in
theorem lawWeakAheads_any (vars : Int) (A QA HA : Option Addr) (cap qc hc : Nat) (code : List St) (post : List Tm) (hv : List Int) (w : World) (hx : RdS w w.heap.size A code) (hcap : code.length ≤ cap) (hm : code.length * 40 ≤ 140737488351232)
    (hq : RdT w w.heap.size QA post) (hh : RdI w w.heap.size HA hv) (hhm : hv.length ≤ maxLen) :
    Calls Try.prog 8 #[.int .i64 vars, .slice A code.length cap, .slice QA post.length qc, .slice HA hv.length hc] w fun e w' => e = .returned (.bool true) ∧ Below w.heap.size w w' := by
  obtain ⟨len, hlen⟩ : ∃ n, code.length = n := ⟨_, rfl⟩
  obtain ⟨ql, hql⟩ : ∃ n, post.length = n := ⟨_, rfl⟩
  obtain ⟨hl, hhl⟩ : ∃ n, hv.length = n := ⟨_, rfl⟩
  rw [hlen] at hcap hm
  rw [hhl] at hhm
  rw [hlen, hql, hhl]
  have HCC := Lib.hid (fun (Z : World) (hZ : Below w.heap.size w Z) => codeCode_any vars A len cap code Z ((RdS.below hx hZ (Nat.le_refl _)).more hZ.size) hlen hcap hm)
  have HTQ := Lib.hid (fun (Z : World) (hZ : Below w.heap.size w Z) => termsCheck_any vars QA ql qc post Z ((hq.below hZ (Nat.le_refl _)).more hZ.size) hql)
  have HHC := Lib.hid (fun (Z : World) (hZ : Below w.heap.size w Z) => haveCheck_any vars HA hl hc hv Z.heap.size Z ((hh.below hZ (Nat.le_refl _)).more hZ.size) hhl hhm)
  by_cases h1 : ckProg vars [bkS code] = 0
  · have H1 := Lib.hid h1
    by_cases h3 : ckTerms vars post = 0
    · have H3 := Lib.hid h3
      obtain ⟨n, rfl, hn1, hn6⟩ := ckProg_nat h1
      have HAH := Lib.hid (ahead_any n A QA len cap ql qc code post w hx hlen hcap hm hq hql h1 h3)
      have HRH := Lib.hid (fun (Z : World) (hZ : Below w.heap.size w Z) => (hh.below hZ (Nat.le_refl _)).more hZ.size)
      have HRQ := Lib.hid (fun (Z : World) (hZ : Below w.heap.size w Z) => (hq.below hZ (Nat.le_refl _)).more hZ.size)
      have HRS := Lib.hid (fun (Z : World) (hZ : Below w.heap.size w Z) => (RdS.below hx hZ (Nat.le_refl _)).more hZ.size)
      have HQL := Lib.hid hql
      have HLEN := Lib.hid hlen
      have HHL := Lib.hid hhl
      have hl20 : len ≤ 20 := by
        have h5 := (ckProg_bd h1).2.2.2.2.1
        have : manyS [bkS code] = code.length := by simp [manyS, bkS]
        omega
      clear hx hq hh hlen hql hhl h1 h3
      go_enter Try.func8, Try.ntmps8
      go_wp2_with (first
        | (go_at_call 30; (with_reducible refine HAH.out.mono ?_); rintro e w1 ⟨T, TA, tc', rfl, hah, hrt, hb1⟩; have HD := Lib.hid hah; have HRT := Lib.hid hrt; have HB1 := Lib.hid hb1; obtain ⟨tl, htl⟩ : ∃ tl, T.length = tl := ⟨_, rfl⟩; have HTL := Lib.hid htl; have htp : 0 < tl := (by rw [← htl]; exact hah.pos); have htf : tl ≤ 64 := (by rw [← htl]; exact hah.few); have htz : (tl == 0) = false := (by simp; omega); have htz2 : ((tl : Int) == 0) = false := (by simp; omega); rw [htl]; clear hah hrt hb1 htl)
        | (go_at_call 31; (refine (HCC.out _ HB1.out).mono ?_); rw [H1.out]; rintro e w2 ⟨rfl, hb2⟩; have HB2 := Lib.hid (below_via HB1.out hb2); have HRT2 := Lib.hid ((HRT.out.below hb2 (Nat.le_refl _)).more hb2.size); clear hb2)
        | (go_at_call 32; (refine (HTQ.out _ HB2.out).mono ?_); rw [H3.out]; rintro e w4 ⟨rfl, hb4⟩; have HB4 := Lib.hid (below_via HB2.out hb4); have HRT4 := Lib.hid ((HRT2.out.below hb4 (Nat.le_refl _)).more hb4.size); clear hb4 HTQ))
      obtain ⟨wo, rfl⟩ : ∃ wo : World, wo = w4 := ⟨_, rfl⟩
      go_loopw [48] (fun i wr => ∃ k : Nat, k ≤ tl ∧ i = .int .i64 k ∧ Below wo.heap.size wo wr) (fun i _ => tl - (intOf i).toNat)
      case atStart => exact ⟨0, Nat.zero_le _, rfl, Below.refl _ _⟩
      case round =>
        obtain ⟨k, hk, rfl, hb⟩ := hrel
        have hsz := hb.size
        by_cases hlt : k < tl
        · obtain ⟨ad, o, a, b, v, rfl, hbl, hd, hc0, hc1, hc2, hc3⟩ := (RdT.below HRT4.out hb (Nat.le_refl _)).at_ (k := k) (by rw [HTL.out]; exact hlt)
          have hcase := ckTerm_cases (HD.out.ok k _ hd)
          simp only at hcase
          clear hd
          have hbw : Below wo.heap.size wo wr := hb
          have hcase2 : (o = 1 ∧ 0 ≤ v ∧ v < 256) ∨ (o = 2 ∧ 0 ≤ v ∧ v < n) ∨ ((o = 3 ∨ o = 4 ∨ o = 5 ∨ o = 6) ∧ 0 ≤ a ∧ a < k ∧ 0 ≤ b ∧ b < k) := by omega
          clear hcase
          rcases hcase2 with ⟨rfl, hv0, hv1⟩ | ⟨rfl, hv0, hv1⟩ | ⟨ho, ha0, ha1, hb0, hb1⟩
          · have HV1 : Hid (decide (0 ≤ v ∧ v ≤ 255) = true) := Lib.hid (by simp; omega)
            go_wp2_with (go_at_call 33; (with_reducible refine (refValue_any v _).mono ?_); rw [HV1.out]; rintro e w5 ⟨rfl, rfl⟩)
            go_round
            case rel => exact ⟨k + 1, by omega, by go_num, by go_grown⟩
            case measure => (simp [intOf]; omega)
          · have HV1 : Hid (decide (0 ≤ v ∧ v < (n : Int)) = true) := Lib.hid (by simp; omega)
            go_wp2_with (go_at_call 34; (with_reducible refine (inside1_any _ v _ _ _ ?_).mono ?_); (· (exact cell_new (by simp) rfl)); rw [HV1.out]; rintro e w5 ⟨rfl, rfl⟩)
            go_round
            case rel => exact ⟨k + 1, by omega, by go_num, by go_grown⟩
            case measure => (simp [intOf]; omega)
          · have HV1 : Hid (decide (0 ≤ a ∧ a < (k : Int) ∧ 0 ≤ b ∧ b < (k : Int)) = true) := Lib.hid (by simp; omega)
            rcases ho with rfl | rfl | rfl | rfl
            all_goals
              go_wp2_with (go_at_call 34; (with_reducible refine (inside2_any _ a b _ _ _ ?_ ?_).mono ?_); (· (exact cell_new (by simp) rfl)); (· (exact cell_new (by simp) rfl)); rw [HV1.out]; rintro e w5 ⟨rfl, rfl⟩)
              go_round
              case rel => exact ⟨k + 1, by omega, by go_num, by go_grown⟩
              case measure => (simp [intOf]; omega)
        · have HBR := Lib.hid (below_via HB4.out hb)
          have HRTR := Lib.hid ((HRT4.out.below hb (Nat.le_refl _)).more hb.size)
          by_cases h4 : ckHave n hv = 0
          · have H4 := Lib.hid h4
            have hvo := valsOk_of h4
            have hln : hl = n := by rw [← HHL.out]; exact hvo.1
            subst hln
            have hdo := doS_ok (ckProg_at H1.out (k := 0) (b := bkS code) rfl).code hvo
            have HVAL : Hid (valT T hv = valT post (doS code hv)) := Lib.hid (HD.out.val hv hvo)
            have HRT5 := Lib.hid (refTermT_any hl TA HA tl tc' hc T hv wr HRTR.out (HRH.out _ HBR.out) HTL.out HD.out.ok htp (by omega) h4)
            have HDO := Lib.hid (fun (Z : World) (hZ : Below w.heap.size w Z) => refDoing_any hl A HA len cap hc code hv Z (HRS.out Z hZ) (HRH.out Z hZ) HLEN.out (by omega) (ckProg_at H1.out (k := 0) (b := bkS code) rfl).code hvo (by omega) (by omega))
            have HRQ5 := Lib.hid (fun (Z : World) (g c' : Nat) (hZ : Below w.heap.size w Z) (hr : RdI Z Z.heap.size (some ⟨g, 0, none⟩) (doS code hv)) => refTerm_any hl QA (some ⟨g, 0, none⟩) ql qc c' post (doS code hv) Z (HRQ.out Z hZ) hr HQL.out H3.out (ckHave_vals hdo))
            have HDL : Hid ((doS code hv).length = hl) := Lib.hid hdo.1
            rw [HHL.out, HVAL.out] at HRT5
            simp only [HDL.out] at HRQ5
            clear h4 hvo hdo hb
            obtain ⟨x2, hx2⟩ : ∃ x2, valT post (doS code hv) = x2 := ⟨_, rfl⟩
            rw [hx2] at HRQ5 HRT5
            clear hx2
            go_wp2_with (first
              | (go_at_call 35; (refine (HHC.out _ HBR.out).mono ?_); rw [H4.out]; rintro e w5 ⟨rfl, rfl⟩)
              | (go_at_call 36; (with_reducible refine HRT5.out.mono ?_); rintro e w6 ⟨rfl, hb6⟩; have HB6 := Lib.hid (below_via HBR.out hb6); clear hb6 HRT5)
              | (go_at_call 37; (refine (HDO.out _ HB6.out).mono ?_); rintro e w7 ⟨g, c', rfl, hown, hb7⟩; have HB7 := Lib.hid (below_via HB6.out hb7); have HOW := Lib.hid (own_rdI hown HDL.out); clear hb7 hown)
              | (go_at_call 36; (refine (HRQ5.out _ _ _ HB7.out HOW.out).mono ?_); rintro e w8 ⟨rfl, hb8⟩; have HB8 := Lib.hid (below_via HB7.out hb8); clear hb8))
            go_ret
            exact ⟨ret_bool (by simp), HB8.out⟩
          · have e1 : (ckHave n hv != 0) = true := by simp [h4]
            clear h4 hb
            go_wp2_with (go_at_call 35; (refine (HHC.out _ HBR.out).mono ?_); rintro e w5 ⟨rfl, rfl⟩)
            go_ret
            exact ⟨ret_bool rfl, HBR.out⟩
    · have e1 : (ckTerms vars post != 0) = true := by simp [h3]
      have e2 : (ckTerms vars post == 0) = false := by simp [h3]
      have HW : Hid (ckW vars code [post] = ckTerms vars post) := Lib.hid (by unfold ckW ckLs; rw [if_pos h1, if_neg h3])
      have HAH := Lib.hid (ahead_bad vars A QA len cap ql qc code post w hx hlen hcap hm hq hql (by rw [HW.out]; exact h3))
      rw [HW.out] at HAH
      clear hx hq hh hlen hql hhl h1 h3 HW
      go_enter Try.func8, Try.ntmps8
      go_wp2_with (first
        | (go_at_call 30; (with_reducible refine HAH.out.mono ?_); rintro e w1 ⟨rfl, hb1⟩; have HB1 := Lib.hid hb1; clear hb1)
        | (go_at_call 31; (refine (HCC.out _ HB1.out).mono ?_); rw [H1.out]; rintro e w2 ⟨rfl, hb2⟩; have HB2 := Lib.hid (below_via HB1.out hb2); clear hb2)
        | (go_at_call 32; (refine (HTQ.out _ HB2.out).mono ?_); rintro e w4 ⟨rfl, hb4⟩; have HB4 := Lib.hid (below_via HB2.out hb4); clear hb4 HTQ))
      go_ret
      exact ⟨ret_bool (by simp), HB4.out⟩
  · have e1 : (ckProg vars [bkS code] != 0) = true := by simp [h1]
    have e2 : (ckProg vars [bkS code] == 0) = false := by simp [h1]
    have HW : Hid (ckW vars code [post] = ckProg vars [bkS code]) := Lib.hid (by unfold ckW; rw [if_neg h1])
    have HAH := Lib.hid (ahead_bad vars A QA len cap ql qc code post w hx hlen hcap hm hq hql (by rw [HW.out]; exact h1))
    rw [HW.out] at HAH
    clear hx hq hh hlen hql hhl h1 HW
    go_enter Try.func8, Try.ntmps8
    go_wp2_with (first
      | (go_at_call 30; (with_reducible refine HAH.out.mono ?_); rintro e w1 ⟨rfl, hb1⟩; have HB1 := Lib.hid hb1; clear hb1)
      | (go_at_call 31; (refine (HCC.out _ HB1.out).mono ?_); rintro e w2 ⟨rfl, hb2⟩; have HB2 := Lib.hid (below_via HB1.out hb2); clear hb2))
    go_ret
    exact ⟨ret_bool (by simp), HB2.out⟩

set_option maxRecDepth 100000 in
theorem lawWeakAheads_lifted (os : Os) (started : os.Started) (H : Type) (enc : TypeId × Value → H) :
    ReturnsInHanded {} Try.checked os 8 .any (Rows.weakAheadsSpec.pre6 enc Try.prog Try.f8 Rows.weakAheadsRow.domain false) (Rows.weakAheadsSpec.post enc Try.prog Try.f8 false true false false) := by
  refine returnsInHanded_of_change_sized (C := Try.checked) Try.own started (by kernel_rfl) Try.func8
    (ChangeSpec.witness6 (enc := enc) (C := Try.checked) false ⟨#[], #[.int .i64 0, .slice none 0 0, .slice none 0 0, .slice none 0 0], []⟩ 8 (by kernel_rfl) (by kernel_rfl) (by kernel_rfl) (by kernel_rfl)) ?_
  intro W base args ds gs before hval0 hW hcnd hsz _
  have hval : ∀ (j : Nat) t v, Try.f8.params[j]? = some t → args[j]? = some v → Value.okWide Try.prog W .any base t v := hval0
  have hW' := hW
  obtain ⟨p, q, hA0, hV, rfl, hfz, hnd⟩ := hW
  have hA : DataW.TrodAll enc Try.prog W 0 (fun _ => true) true Try.f8.params.toList args.toList ds p := hA0
  obtain ⟨hgs, _⟩ := trodVars_none hV
  rw [Try.params8] at hA hval
  obtain ⟨v0, vs0, d0, ds0, p0, q0, hargs, rfl, rfl, h0, r0⟩ := trodAll_cons hA
  obtain ⟨v1, vs1, d1, ds1, p1, q1, rfl, rfl, rfl, h1, r1⟩ := trodAll_cons r0
  obtain ⟨v2, vs2, d2, ds2, p2, q2, rfl, rfl, rfl, h2, r2⟩ := trodAll_cons r1
  obtain ⟨v3, vs3, d3, ds3, p3, q3, rfl, rfl, rfl, h3, r3⟩ := trodAll_cons r2
  obtain ⟨rfl, rfl, rfl⟩ := trodAll_nil r3
  have hargs2 : args = #[v0, v1, v2, v3] := Array.toList_inj.1 hargs
  subst hargs2
  obtain ⟨a0, rfl, _, _, w0⟩ := open_int Try.underlying3 (hval 0 3 v0 rfl rfl) h0
  obtain ⟨A1, c1, l1, rfl, lc1, cm1, x1, r1⟩ := open_stepsB (hval 1 49 v1 rfl rfl) h1
  have b1 := len_reach Try.underlying49 (hval 1 49 _ rfl rfl) h1 hsz (j := 1) (by rw [Try.params8]; rfl) rfl
  rw [show Try.prog.bytesOf (Try.prog.elem 49) = 40 from by kernel_rfl] at b1
  obtain ⟨A2, c2, l2, rfl, lc2, cm2, x2, r2⟩ := open_termsA (hval 2 50 v2 rfl rfl) h2
  have b2 := len_reach Try.underlying50 (hval 2 50 _ rfl rfl) h2 hsz (j := 2) (by rw [Try.params8]; rfl) rfl
  rw [show Try.prog.bytesOf (Try.prog.elem 50) = 32 from by kernel_rfl] at b2
  obtain ⟨A3, c3, l3, rfl, lc3, cm3, x3, r3⟩ := open_intsA (hval 3 39 v3 rfl rfl) h3
  have b3 := len_reach Try.underlying39 (hval 3 39 _ rfl rfl) h3 hsz (j := 3) (by rw [Try.params8]; rfl) rfl
  rw [show Try.prog.bytesOf (Try.prog.elem 39) = 8 from by kernel_rfl] at b3
  refine (lawWeakAheads_any a0 A1 A2 A3 c1 c2 c3 l1 l2 l3 _ x1 lc1 (by omega) x2 x3 (by omega)).mono fun e W' ⟨he, hb⟩ => ?_
  subst he
  exact ⟨_, rfl, law_post Try.laidOut rfl (by kernel_rfl) Try.underlying4 ⟨rfl, rfl, rfl⟩ (by kernel_rfl) hW' hb⟩

theorem weakAheads_holds : Rows.WeakAheadsSaid :=
  OpenClaim.holds_of_wide 8 Try.f8 rfl rfl rfl rfl rfl rfl rfl ⟨rfl, rfl, rfl, rfl, rfl⟩ rfl rfl rfl rfl rfl (by kernel_rfl) Try.func8 (show joinedFacts Try.prog 8 Try.f8 Rows.weakAheadsSpec Rows.weakAheadsRow = true from (by unfold joinedFacts; (repeat' (with_reducible refine and_both ?_ ?_)) <;> first | (with_reducible exact may_enter) | ((with_reducible refine make_ok ?_); rfl) | ((with_reducible refine lifts_ok ?_); rfl) | kernel_rfl))
    (of_decide_eq_true (by kernel_rfl)) (by unfold Func.isWrapper; rw [if_neg (of_decide_eq_false (by kernel_rfl))]; exact ⟨rfl, rfl⟩)
    (fun os started H enc _ => lawWeakAheads_lifted os started H enc)

end Go.Proofs.Ytfhnhbkdhdocjaa
