/-
  weak.Holds tells whether what is asked for ahead of the steps is not so, or what is asked for behind them is, for all arguments (S1): codemasonlaw.WeakHolds returns true and leaves its arguments alone. No condition.
-/
import Derived.Test.YtfhnhbkdhdocjaaMWeak
import Derived.Test.YtfhnhbkdhdocjaaTermVal
import Derived.Test.YtfhnhbkdhdocjaaTermsRef
import Derived.Test.YtfhnhbkdhdocjaaBlockDo
import Derived.Test.YtfhnhbkdhdocjaaBlockOpen
import Derived.BigQuiet
namespace Go.Proofs.Ytfhnhbkdhdocjaa
open Go.RowKit Go.ChangeShapes Go.WideShapes Go.ChangeAt Go.Deep
set_option linter.unusedSimpArgs false
set_option linter.unusedVariables false
set_option maxRecDepth 100000

set_option maxHeartbeats 16000000 in
theorem lawWeakHolds_any (vars : Int) (PA A QA HA : Option Addr) (pc cap qc hc : Nat) (pre : List Tm) (code : List St) (post : List Tm) (hv : List Int) (w : World) (hp : RdT w w.heap.size PA pre) (hx : RdS w w.heap.size A code) (hcap : code.length ≤ cap) (hm : code.length * 40 ≤ 140737488351232)
    (hq : RdT w w.heap.size QA post) (hh : RdI w w.heap.size HA hv) (hhm : hv.length ≤ maxLen) :
    Calls Try.prog 9 #[.int .i64 vars, .slice PA pre.length pc, .slice A code.length cap, .slice QA post.length qc, .slice HA hv.length hc] w fun e w' => e = .returned (.bool true) ∧ Below w.heap.size w w' := by
  obtain ⟨pl, hpl⟩ : ∃ n, pre.length = n := ⟨_, rfl⟩
  obtain ⟨len, hlen⟩ : ∃ n, code.length = n := ⟨_, rfl⟩
  obtain ⟨ql, hql⟩ : ∃ n, post.length = n := ⟨_, rfl⟩
  obtain ⟨hl, hhl⟩ : ∃ n, hv.length = n := ⟨_, rfl⟩
  rw [hlen] at hcap hm
  rw [hhl] at hhm
  rw [hpl, hlen, hql, hhl]
  have HHO := Lib.hid (holds_any vars A PA QA HA len cap pl pc ql qc hl hc code pre post hv w hx hlen hcap hm hp hpl hq hql hh hhl hhm)
  have HCC := Lib.hid (fun (Z : World) (hZ : Below w.heap.size w Z) => codeCode_any vars A len cap code Z ((RdS.below hx hZ (Nat.le_refl _)).more hZ.size) hlen hcap hm)
  have HTP := Lib.hid (fun (Z : World) (hZ : Below w.heap.size w Z) => termsCheck_any vars PA pl pc pre Z ((hp.below hZ (Nat.le_refl _)).more hZ.size) hpl)
  have HTQ := Lib.hid (fun (Z : World) (hZ : Below w.heap.size w Z) => termsCheck_any vars QA ql qc post Z ((hq.below hZ (Nat.le_refl _)).more hZ.size) hql)
  have HHC := Lib.hid (fun (Z : World) (hZ : Below w.heap.size w Z) => haveCheck_any vars HA hl hc hv Z.heap.size Z ((hh.below hZ (Nat.le_refl _)).more hZ.size) hhl hhm)
  by_cases h1 : ckProg vars [bkS code] = 0
  · have H1 := Lib.hid h1
    by_cases h2 : ckTerms vars pre = 0
    · have H2 := Lib.hid h2
      by_cases h3 : ckTerms vars post = 0
      · have H3 := Lib.hid h3
        have HW : Hid (ckW vars code [pre, post] = 0) := Lib.hid (by unfold ckW ckLs ckLs; rw [if_pos h1, if_pos h2, if_pos h3]; rfl)
        have HH : Hid (ckH vars pre code post hv = ckHave vars hv) := Lib.hid (by unfold ckH; rw [if_pos HW.out])
        by_cases h4 : ckHave vars hv = 0
        · have H4 := Lib.hid h4
          obtain ⟨n, rfl, hn1, hn6⟩ := ckProg_nat h1
          have hvo := valsOk_of h4
          have hln : hl = n := by rw [← hhl]; exact hvo.1
          subst hln
          have hdo := doS_ok (ckProg_at h1 (k := 0) (b := bkS code) rfl).code hvo
          have hl20 : len ≤ 20 := by
            have h5 := (ckProg_bd h1).2.2.2.2.1
            have : manyS [bkS code] = code.length := by simp [manyS, bkS]
            omega
          have HRP := Lib.hid (fun (Z : World) (hZ : Below w.heap.size w Z) => refTerm_any hl PA HA pl pc hc pre hv Z ((hp.below hZ (Nat.le_refl _)).more hZ.size) ((hh.below hZ (Nat.le_refl _)).more hZ.size) hpl h2 h4)
          have HDO := Lib.hid (fun (Z : World) (hZ : Below w.heap.size w Z) => refDoing_any hl A HA len cap hc code hv Z ((RdS.below hx hZ (Nat.le_refl _)).more hZ.size) ((hh.below hZ (Nat.le_refl _)).more hZ.size) hlen (by omega) (ckProg_at h1 (k := 0) (b := bkS code) rfl).code hvo (by omega) (by omega))
          have HRQ := Lib.hid (fun (Z : World) (g c' : Nat) (hZ : Below w.heap.size w Z) (hr : RdI Z Z.heap.size (some ⟨g, 0, none⟩) (doS code hv)) => refTerm_any hl QA (some ⟨g, 0, none⟩) ql qc c' post (doS code hv) Z ((hq.below hZ (Nat.le_refl _)).more hZ.size) hr hql h3 (ckHave_vals hdo))
          have HDL : Hid ((doS code hv).length = hl) := Lib.hid hdo.1
          have HHL := Lib.hid hhl
          rw [HHL.out] at HRP
          simp only [HDL.out] at HRQ
          have HRES : Hid (hdR hl pre code post hv = (valT pre hv == 0 || valT post (doS code hv) != 0)) := Lib.hid (by unfold hdR; rw [HH.out, if_pos h4]; rfl)
          rw [HH.out, h4, HRES.out] at HHO
          clear hp hx hq hh hpl hlen hql hhl h1 h2 h3 h4 hvo hdo HW HH HRES
          obtain ⟨x1, hx1⟩ : ∃ x1, valT pre hv = x1 := ⟨_, rfl⟩
          obtain ⟨x2, hx2⟩ : ∃ x2, valT post (doS code hv) = x2 := ⟨_, rfl⟩
          rw [hx1, hx2] at HHO
          rw [hx1] at HRP
          rw [hx2] at HRQ
          clear hx1 hx2
          rcases Decidable.em (x1 = 0) with hz | hz
          all_goals
            have HZ := Lib.hid hz
            first | subst hz | (have e2 : (x1 == 0) = false := (by simp [hz]); clear hz)
            go_enter Try.func9, Try.ntmps9
            go_wp2_with (first
              | (go_at_call 38; (with_reducible refine HHO.out.mono ?_); rintro e w1 ⟨rfl, hb1⟩; have HB1 := Lib.hid hb1; clear hb1)
              | (go_at_call 31; (refine (HCC.out _ HB1.out).mono ?_); rw [H1.out]; rintro e w2 ⟨rfl, hb2⟩; have HB2 := Lib.hid (below_via HB1.out hb2); clear hb2)
              | (go_at_call 32; (refine (HTP.out _ HB2.out).mono ?_); rw [H2.out]; rintro e w3 ⟨rfl, hb3⟩; have HB3 := Lib.hid (below_via HB2.out hb3); clear hb3 HTP)
              | (go_at_call 32; (refine (HTQ.out _ HB3.out).mono ?_); rw [H3.out]; rintro e w4 ⟨rfl, hb4⟩; have HB4 := Lib.hid (below_via HB3.out hb4); clear hb4 HTQ)
              | (go_at_call 35; (refine (HHC.out _ HB4.out).mono ?_); rw [H4.out]; rintro e w5 ⟨rfl, rfl⟩)
              | (go_at_call 36; (refine (HRP.out _ HB4.out).mono ?_); rintro e w6 ⟨rfl, hb6⟩; have HB6 := Lib.hid (below_via HB4.out hb6); clear hb6 HRP)
              | (go_at_call 37; (refine (HDO.out _ HB6.out).mono ?_); rintro e w7 ⟨g, c', rfl, hown, hb7⟩; have HB7 := Lib.hid (below_via HB6.out hb7); have HOW := Lib.hid (own_rdI hown HDL.out); clear hb7 hown)
              | (go_at_call 36; (refine (HRQ.out _ _ _ HB7.out HOW.out).mono ?_); rintro e w8 ⟨rfl, hb8⟩; have HB8 := Lib.hid (below_via HB7.out hb8); clear hb8))
            go_ret
            first
              | exact ⟨ret_bool (by simp), HB8.out⟩
              | exact ⟨ret_bool (by simp), HB6.out⟩
        · have e1 : (ckHave vars hv != 0) = true := by simp [h4]
          have HRES : Hid (hdR vars pre code post hv = false) := Lib.hid (by unfold hdR; rw [HH.out, if_neg h4])
          rw [HH.out, HRES.out] at HHO
          clear hp hx hq hh hpl hlen hql hhl h1 h2 h3 h4 HW HH HRES
          go_enter Try.func9, Try.ntmps9
          go_wp2_with (first
            | (go_at_call 38; (with_reducible refine HHO.out.mono ?_); rintro e w1 ⟨rfl, hb1⟩; have HB1 := Lib.hid hb1; clear hb1)
            | (go_at_call 31; (refine (HCC.out _ HB1.out).mono ?_); rw [H1.out]; rintro e w2 ⟨rfl, hb2⟩; have HB2 := Lib.hid (below_via HB1.out hb2); clear hb2)
            | (go_at_call 32; (refine (HTP.out _ HB2.out).mono ?_); rw [H2.out]; rintro e w3 ⟨rfl, hb3⟩; have HB3 := Lib.hid (below_via HB2.out hb3); clear hb3 HTP)
            | (go_at_call 32; (refine (HTQ.out _ HB3.out).mono ?_); rw [H3.out]; rintro e w4 ⟨rfl, hb4⟩; have HB4 := Lib.hid (below_via HB3.out hb4); clear hb4 HTQ)
            | (go_at_call 35; (refine (HHC.out _ HB4.out).mono ?_); rintro e w5 ⟨rfl, rfl⟩))
          go_ret
          exact ⟨ret_bool (by simp), HB4.out⟩
      · have e1 : (ckTerms vars post != 0) = true := by simp [h3]
        have e2 : (ckTerms vars post == 0) = false := by simp [h3]
        have HW : Hid (ckW vars code [pre, post] = ckTerms vars post) := Lib.hid (by unfold ckW ckLs ckLs; rw [if_pos h1, if_pos h2, if_neg h3])
        have HH : Hid (ckH vars pre code post hv = ckTerms vars post) := Lib.hid (by unfold ckH; rw [HW.out, if_neg h3])
        have HRES : Hid (hdR vars pre code post hv = false) := Lib.hid (by unfold hdR; rw [HH.out, if_neg h3])
        rw [HH.out, HRES.out] at HHO
        clear hp hx hq hh hpl hlen hql hhl h1 h2 h3 HW HH HRES
        go_enter Try.func9, Try.ntmps9
        go_wp2_with (first
          | (go_at_call 38; (with_reducible refine HHO.out.mono ?_); rintro e w1 ⟨rfl, hb1⟩; have HB1 := Lib.hid hb1; clear hb1)
          | (go_at_call 31; (refine (HCC.out _ HB1.out).mono ?_); rw [H1.out]; rintro e w2 ⟨rfl, hb2⟩; have HB2 := Lib.hid (below_via HB1.out hb2); clear hb2)
          | (go_at_call 32; (refine (HTP.out _ HB2.out).mono ?_); rw [H2.out]; rintro e w3 ⟨rfl, hb3⟩; have HB3 := Lib.hid (below_via HB2.out hb3); clear hb3 HTP)
          | (go_at_call 32; (refine (HTQ.out _ HB3.out).mono ?_); rintro e w4 ⟨rfl, hb4⟩; have HB4 := Lib.hid (below_via HB3.out hb4); clear hb4 HTQ))
        go_ret
        exact ⟨ret_bool (by simp), HB4.out⟩
    · have e1 : (ckTerms vars pre != 0) = true := by simp [h2]
      have e2 : (ckTerms vars pre == 0) = false := by simp [h2]
      have HW : Hid (ckW vars code [pre, post] = ckTerms vars pre) := Lib.hid (by unfold ckW ckLs; rw [if_pos h1, if_neg h2])
      have HH : Hid (ckH vars pre code post hv = ckTerms vars pre) := Lib.hid (by unfold ckH; rw [HW.out, if_neg h2])
      have HRES : Hid (hdR vars pre code post hv = false) := Lib.hid (by unfold hdR; rw [HH.out, if_neg h2])
      rw [HH.out, HRES.out] at HHO
      clear hp hx hq hh hpl hlen hql hhl h1 h2 HW HH HRES
      go_enter Try.func9, Try.ntmps9
      go_wp2_with (first
        | (go_at_call 38; (with_reducible refine HHO.out.mono ?_); rintro e w1 ⟨rfl, hb1⟩; have HB1 := Lib.hid hb1; clear hb1)
        | (go_at_call 31; (refine (HCC.out _ HB1.out).mono ?_); rw [H1.out]; rintro e w2 ⟨rfl, hb2⟩; have HB2 := Lib.hid (below_via HB1.out hb2); clear hb2)
        | (go_at_call 32; (refine (HTP.out _ HB2.out).mono ?_); rintro e w3 ⟨rfl, hb3⟩; have HB3 := Lib.hid (below_via HB2.out hb3); clear hb3 HTP))
      go_ret
      exact ⟨ret_bool (by simp), HB3.out⟩
  · have e1 : (ckProg vars [bkS code] != 0) = true := by simp [h1]
    have e2 : (ckProg vars [bkS code] == 0) = false := by simp [h1]
    have HW : Hid (ckW vars code [pre, post] = ckProg vars [bkS code]) := Lib.hid (by unfold ckW; rw [if_neg h1])
    have HH : Hid (ckH vars pre code post hv = ckProg vars [bkS code]) := Lib.hid (by unfold ckH; rw [HW.out, if_neg h1])
    have HRES : Hid (hdR vars pre code post hv = false) := Lib.hid (by unfold hdR; rw [HH.out, if_neg h1])
    rw [HH.out, HRES.out] at HHO
    clear hp hx hq hh hpl hlen hql hhl h1 HW HH HRES
    go_enter Try.func9, Try.ntmps9
    go_wp2_with (first
      | (go_at_call 38; (with_reducible refine HHO.out.mono ?_); rintro e w1 ⟨rfl, hb1⟩; have HB1 := Lib.hid hb1; clear hb1)
      | (go_at_call 31; (refine (HCC.out _ HB1.out).mono ?_); rintro e w2 ⟨rfl, hb2⟩; have HB2 := Lib.hid (below_via HB1.out hb2); clear hb2))
    go_ret
    exact ⟨ret_bool (by simp), HB2.out⟩

set_option maxRecDepth 100000 in
theorem lawWeakHolds_lifted (os : Os) (started : os.Started) (H : Type) (enc : TypeId × Value → H) :
    ReturnsInHanded {} Try.checked os 9 .any (Rows.weakHoldsSpec.pre6 enc Try.prog Try.f9 Rows.weakHoldsRow.domain false) (Rows.weakHoldsSpec.post enc Try.prog Try.f9 false true false false) := by
  refine returnsInHanded_of_change_sized (C := Try.checked) Try.own started (by kernel_rfl) Try.func9
    (ChangeSpec.witness6 (enc := enc) (C := Try.checked) false ⟨#[], #[.int .i64 0, .slice none 0 0, .slice none 0 0, .slice none 0 0, .slice none 0 0], []⟩ 8 (by kernel_rfl) (by kernel_rfl) (by kernel_rfl) (by kernel_rfl)) ?_
  intro W base args ds gs before hval0 hW hcnd hsz _
  have hval : ∀ (j : Nat) t v, Try.f9.params[j]? = some t → args[j]? = some v → Value.okWide Try.prog W .any base t v := hval0
  have hW' := hW
  obtain ⟨p, q, hA0, hV, rfl, hfz, hnd⟩ := hW
  have hA : DataW.TrodAll enc Try.prog W 0 (fun _ => true) true Try.f9.params.toList args.toList ds p := hA0
  obtain ⟨hgs, _⟩ := trodVars_none hV
  rw [Try.params9] at hA hval
  obtain ⟨v0, vs0, d0, ds0, p0, q0, hargs, rfl, rfl, h0, r0⟩ := trodAll_cons hA
  obtain ⟨v1, vs1, d1, ds1, p1, q1, rfl, rfl, rfl, h1, r1⟩ := trodAll_cons r0
  obtain ⟨v2, vs2, d2, ds2, p2, q2, rfl, rfl, rfl, h2, r2⟩ := trodAll_cons r1
  obtain ⟨v3, vs3, d3, ds3, p3, q3, rfl, rfl, rfl, h3, r3⟩ := trodAll_cons r2
  obtain ⟨v4, vs4, d4, ds4, p4, q4, rfl, rfl, rfl, h4, r4⟩ := trodAll_cons r3
  obtain ⟨rfl, rfl, rfl⟩ := trodAll_nil r4
  have hargs2 : args = #[v0, v1, v2, v3, v4] := Array.toList_inj.1 hargs
  subst hargs2
  obtain ⟨a0, rfl, _, _, w0⟩ := open_int Try.underlying3 (hval 0 3 v0 rfl rfl) h0
  obtain ⟨A1, c1, l1, rfl, lc1, cm1, x1, r1⟩ := open_termsA (hval 1 50 v1 rfl rfl) h1
  have b1 := len_reach Try.underlying50 (hval 1 50 _ rfl rfl) h1 hsz (j := 1) (by rw [Try.params9]; rfl) rfl
  rw [show Try.prog.bytesOf (Try.prog.elem 50) = 32 from by kernel_rfl] at b1
  obtain ⟨A2, c2, l2, rfl, lc2, cm2, x2, r2⟩ := open_stepsB (hval 2 49 v2 rfl rfl) h2
  have b2 := len_reach Try.underlying49 (hval 2 49 _ rfl rfl) h2 hsz (j := 2) (by rw [Try.params9]; rfl) rfl
  rw [show Try.prog.bytesOf (Try.prog.elem 49) = 40 from by kernel_rfl] at b2
  obtain ⟨A3, c3, l3, rfl, lc3, cm3, x3, r3⟩ := open_termsA (hval 3 50 v3 rfl rfl) h3
  have b3 := len_reach Try.underlying50 (hval 3 50 _ rfl rfl) h3 hsz (j := 3) (by rw [Try.params9]; rfl) rfl
  rw [show Try.prog.bytesOf (Try.prog.elem 50) = 32 from by kernel_rfl] at b3
  obtain ⟨A4, c4, l4, rfl, lc4, cm4, x4, r4⟩ := open_intsA (hval 4 39 v4 rfl rfl) h4
  have b4 := len_reach Try.underlying39 (hval 4 39 _ rfl rfl) h4 hsz (j := 4) (by rw [Try.params9]; rfl) rfl
  rw [show Try.prog.bytesOf (Try.prog.elem 39) = 8 from by kernel_rfl] at b4
  refine (lawWeakHolds_any a0 A1 A2 A3 A4 c1 c2 c3 c4 l1 l2 l3 l4 _ x1 x2 lc2 (by omega) x3 x4 (by omega)).mono fun e W' ⟨he, hb⟩ => ?_
  subst he
  exact ⟨_, rfl, law_post Try.laidOut rfl (by kernel_rfl) Try.underlying4 ⟨rfl, rfl, rfl⟩ (by kernel_rfl) hW' hb⟩

theorem weakHolds_holds : Rows.WeakHoldsSaid :=
  OpenClaim.holds_of_wide 9 Try.f9 rfl rfl rfl rfl rfl rfl rfl ⟨rfl, rfl, rfl, rfl, rfl⟩ rfl rfl rfl rfl rfl (by kernel_rfl) Try.func9 (show joinedFacts Try.prog 9 Try.f9 Rows.weakHoldsSpec Rows.weakHoldsRow = true from (by unfold joinedFacts; (repeat' (with_reducible refine and_both ?_ ?_)) <;> first | (with_reducible exact may_enter) | ((with_reducible refine make_ok ?_); rfl) | ((with_reducible refine lifts_ok ?_); rfl) | kernel_rfl))
    (of_decide_eq_true (by kernel_rfl)) (by unfold Func.isWrapper; rw [if_neg (of_decide_eq_false (by kernel_rfl))]; exact ⟨rfl, rfl⟩)
    (fun os started H enc _ => lawWeakHolds_lifted os started H enc)

end Go.Proofs.Ytfhnhbkdhdocjaa
