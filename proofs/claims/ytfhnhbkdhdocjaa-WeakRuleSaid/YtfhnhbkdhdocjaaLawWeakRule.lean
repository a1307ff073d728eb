/-
  What must be so ahead of steps is just what, with the steps, makes the given terms so behind them (Hoare; S1): codemasonkeep.WeakRule returns true and leaves its arguments alone. No condition.
-/
import Derived.Test.YtfhnhbkdhdocjaaMWeak
import Derived.Test.YtfhnhbkdhdocjaaWeakRight
import Derived.Test.YtfhnhbkdhdocjaaTermed
import Derived.Test.YtfhnhbkdhdocjaaBlockOpen
import Derived.BigQuiet
namespace Go.Proofs.Ytfhnhbkdhdocjaa
open Go.RowKit Go.ChangeShapes Go.WideShapes Go.ChangeAt Go.Deep
set_option linter.unusedSimpArgs false
set_option linter.unusedVariables false
set_option maxRecDepth 100000

theorem rdT_one {w : World} {G : Nat} {o a b v : Int} (h : Own w G 56 [.int .i64 o, .int .i64 a, .int .i64 b, .int .i64 v]) : RdT w w.heap.size (some ⟨G, 0, none⟩) [⟨o, a, b, v⟩] := fun _ =>
  ⟨⟨G, 0, none⟩, rfl, h.lt, fun j hj => by
    have ha : (⟨G, 0, none⟩ : Addr).add j = ⟨G, j, none⟩ := by unfold Addr.add; split <;> simp_all
    rw [ha]
    simp at hj
    have : j = 0 ∨ j = 1 ∨ j = 2 ∨ j = 3 := by omega
    rcases this with rfl | rfl | rfl | rfl
    · exact h.cell (j := 0) rfl
    · exact h.cell (j := 1) rfl
    · exact h.cell (j := 2) rfl
    · exact h.cell (j := 3) rfl⟩

set_option maxHeartbeats 16000000 in
theorem lawWeakRule_any (vars : Int) (A QA HA : Option Addr) (cap qc hc : Nat) (code : List St) (post : List Tm) (hv : List Int) (w : World) (hx : RdS w w.heap.size A code) (hcap : code.length ≤ cap) (hm : code.length * 40 ≤ 140737488351232)
    (hq : RdT w w.heap.size QA post) (hh : RdI w w.heap.size HA hv) (hhm : hv.length ≤ maxLen) :
    Calls Try.prog 11 #[.int .i64 vars, .slice A code.length cap, .slice QA post.length qc, .slice HA hv.length hc] w fun e w' => e = .returned (.bool true) ∧ Below w.heap.size w w' := by
  obtain ⟨len, hlen⟩ : ∃ n, code.length = n := ⟨_, rfl⟩
  obtain ⟨ql, hql⟩ : ∃ n, post.length = n := ⟨_, rfl⟩
  obtain ⟨hl, hhl⟩ : ∃ n, hv.length = n := ⟨_, rfl⟩
  rw [hlen] at hcap hm
  rw [hhl] at hhm
  rw [hlen, hql, hhl]
  have HGV := Lib.hid (fun (Z : World) (hZ : Below w.heap.size w Z) => given_any vars HA hl hc hv Z.heap.size Z ((hh.below hZ (Nat.le_refl _)).more hZ.size) hhl hhm)
  by_cases hz : ckW vars code [post] = 0
  · have h1 : ckProg vars [bkS code] = 0 := by unfold ckW at hz; split at hz <;> assumption
    have h3 : ckTerms vars post = 0 := by
      unfold ckW at hz
      rw [if_pos h1] at hz
      unfold ckLs at hz
      split at hz <;> assumption
    clear hz
    obtain ⟨n, rfl, hn1, hn6⟩ := ckProg_nat h1
    have HAH := Lib.hid (ahead_any n A QA len cap ql qc code post w hx hlen hcap hm hq hql h1 h3)
    by_cases h4 : ckHave n hv = 0
    · have hvo := valsOk_of h4
      have hln : hl = n := by rw [← hhl]; exact hvo.1
      subst hln
      have HG1 : Hid ((ckHave hl hv == 0) = true) := Lib.hid (by simp [h4])
      have HRH := Lib.hid (fun (Z : World) (hZ : Below w.heap.size w Z) => (hh.below hZ (Nat.le_refl _)).more hZ.size)
      have HRS := Lib.hid (fun (Z : World) (hZ : Below w.heap.size w Z) => (RdS.below hx hZ (Nat.le_refl _)).more hZ.size)
      have HLEN := Lib.hid hlen
      have HHL := Lib.hid hhl
      have hl20 : len ≤ 20 := by
        have h5 := (ckProg_bd h1).2.2.2.2.1
        have : manyS [bkS code] = code.length := by simp [manyS, bkS]
        omega
      have hcs := (ckProg_at h1 (k := 0) (b := bkS code) rfl).code
      have HCS : Hid (ckStepsF hl hl code = 0) := Lib.hid hcs
      have hpre : ckTerms hl [⟨1, 0, 0, 1⟩] = 0 := ckTerms_of (by omega) (by omega) (by simp) (by simp) fun i t ht => by
        have hi := (List.getElem?_eq_some_iff.1 ht).1
        simp at hi
        subst hi
        simp at ht
        subst ht
        rfl
      have hvt : valT [⟨1, 0, 0, 1⟩] hv = 1 := rfl
      have HCH : Hid (ckH hl [⟨1, 0, 0, 1⟩] code post hv = 0) := Lib.hid (by unfold ckH ckW ckLs ckLs; rw [if_pos h1, if_pos hpre, if_pos h3]; exact h4)
      have HDR : Hid (hdR hl [⟨1, 0, 0, 1⟩] code post hv = (valT post (doS code hv) != 0)) := Lib.hid (by unfold hdR; rw [if_pos HCH.out]; unfold hdB; rw [hvt]; rfl)
      have HHO := Lib.hid (fun (Z : World) (G : Nat) (hZ : Below w.heap.size w Z) (hO : Own Z G 56 [.int .i64 1, .int .i64 0, .int .i64 0, .int .i64 1]) => holds_any hl A (some ⟨G, 0, none⟩) QA HA len cap 1 1 ql qc hl hc code [⟨1, 0, 0, 1⟩] post hv Z ((RdS.below hx hZ (Nat.le_refl _)).more hZ.size) hlen hcap hm (rdT_one hO) rfl ((hq.below hZ (Nat.le_refl _)).more hZ.size) hql ((hh.below hZ (Nat.le_refl _)).more hZ.size) hhl hhm)
      simp only [HCH.out, HDR.out] at HHO
      have H4 := Lib.hid h4
      have HVO := Lib.hid hvo
      clear hx hq hh hlen hql hhl h1 h3 h4 hvo hcs hpre hvt
      go_enter Try.func11, Try.ntmps11
      go_upto_region 4 with (first
        | (go_at_call 30; (with_reducible refine HAH.out.mono ?_); rintro e w1 ⟨T, TA, tc', rfl, hah, hrt, hb1⟩; have HD := Lib.hid hah; have HRT := Lib.hid hrt; have HB1 := Lib.hid hb1; obtain ⟨tl, htl⟩ : ∃ tl, T.length = tl := ⟨_, rfl⟩; have HTL := Lib.hid htl; have htp : 0 < tl := (by rw [← htl]; exact hah.pos); have htf : tl ≤ 64 := (by rw [← htl]; exact hah.few); have htz : (tl == 0) = false := (by simp; omega); have htz2 : ((tl : Int) == 0) = false := (by simp; omega); rw [htl]; clear hah hrt hb1 htl)
        | (go_at_call 26; (refine (HGV.out _ HB1.out).mono ?_); rw [HG1.out]; rintro e w2 ⟨rfl, rfl⟩; obtain ⟨w2, rfl⟩ : ∃ Z : World, Z = w1 := ⟨_, rfl⟩))
      have HB2 : Hid (Below w2.heap.size w2 (w2.alloc (.cells #[.int .i64 1, .int .i64 0, .slice A len cap, .slice none 0 0, .slice none 0 0] 70))) := Lib.hid (by go_grown)
      have HRI := Lib.hid (right_any hl w2.heap.size A len cap code (w2.alloc (.cells #[.int .i64 1, .int .i64 0, .slice A len cap, .slice none 0 0, .slice none 0 0] 70)) (Own.new w2 _ [.int .i64 1, .int .i64 0, .slice A len cap, .slice none 0 0, .slice none 0 0]) (HRS.out _ (below_via HB1.out HB2.out)) HLEN.out (by omega) HCS.out)
      go_upto_region 6 with (go_at_call 39; (with_reducible refine HRI.out.mono ?_); rintro e w3 ⟨rfl, hb3⟩)
      have HB23 := Lib.hid (below_via HB2.out hb3)
      have HB3 := Lib.hid (below_via HB1.out HB23.out)
      have HB4 : Hid (Below w3.heap.size w3 (w3.alloc (.cells #[.int .i64 1, .int .i64 0, .int .i64 0, .int .i64 1] 56))) := Lib.hid (by go_grown)
      have HHO3 := Lib.hid (HHO.out _ w3.heap.size (below_via HB3.out HB4.out) (Own.new w3 _ [.int .i64 1, .int .i64 0, .int .i64 0, .int .i64 1]))
      have HRT3 := Lib.hid ((HRT.out.below (below_via HB23.out HB4.out) (Nat.le_refl _)).more (below_via HB23.out HB4.out).size)
      have HVAL : Hid (valT T hv = valT post (doS code hv)) := Lib.hid (HD.out.val hv HVO.out)
      obtain ⟨x2, hx2⟩ : ∃ x2, valT post (doS code hv) = x2 := ⟨_, rfl⟩
      rw [hx2] at HVAL HHO3
      clear hb3 HRI hx2
      go_upto_region 7 with (go_at_call 38; (with_reducible refine HHO3.out.mono ?_); rintro e w4 ⟨rfl, hb4⟩)
      have HB5 := Lib.hid (below_via (below_via HB3.out HB4.out) hb4)
      have HTM := Lib.hid (refTermT_any hl TA HA tl tc' hc T hv w4 ((HRT3.out.below hb4 (Nat.le_refl _)).more hb4.size) (HRH.out _ HB5.out) HTL.out HD.out.ok htp (by omega) H4.out)
      rw [HHL.out, HVAL.out] at HTM
      clear hb4 HHO3
      go_wp2_with (go_at_call 36; (with_reducible refine HTM.out.mono ?_); rintro e w5 ⟨rfl, hb5⟩; have HB6 := Lib.hid (below_via HB5.out hb5); clear hb5)
      go_ret
      exact ⟨ret_bool (by simp), HB6.out⟩
    · have HG0 : Hid ((ckHave n hv == 0) = false) := Lib.hid (by simp [h4])
      clear hx hq hh hlen hql hhl h1 h3 h4
      go_enter Try.func11, Try.ntmps11
      go_wp2_with (first
        | (go_at_call 30; (with_reducible refine HAH.out.mono ?_); rintro e w1 ⟨T, TA, tc', rfl, hah, hrt, hb1⟩; have HB1 := Lib.hid hb1; clear hah hrt hb1)
        | (go_at_call 26; (refine (HGV.out _ HB1.out).mono ?_); rw [HG0.out]; rintro e w2 ⟨rfl, rfl⟩))
      go_ret
      exact ⟨ret_bool (by simp), HB1.out⟩
  · have e1 : (ckW vars code [post] != 0) = true := by simp [hz]
    have e2 : (ckW vars code [post] == 0) = false := by simp [hz]
    have HAH := Lib.hid (ahead_bad vars A QA len cap ql qc code post w hx hlen hcap hm hq hql hz)
    clear hx hq hh hlen hql hhl hz
    go_enter Try.func11, Try.ntmps11
    go_wp2_with (go_at_call 30; (with_reducible refine HAH.out.mono ?_); rintro e w1 ⟨rfl, hb1⟩; have HB1 := Lib.hid hb1; clear hb1)
    go_ret
    exact ⟨ret_bool (by simp), HB1.out⟩

set_option maxRecDepth 100000 in
theorem lawWeakRule_lifted (os : Os) (started : os.Started) (H : Type) (enc : TypeId × Value → H) :
    ReturnsInHanded {} Try.checked os 11 .any (Rows.weakRuleSpec.pre6 enc Try.prog Try.f11 Rows.weakRuleRow.domain false) (Rows.weakRuleSpec.post enc Try.prog Try.f11 false true false false) := by
  refine returnsInHanded_of_change_sized (C := Try.checked) Try.own started (by kernel_rfl) Try.func11
    (ChangeSpec.witness6 (enc := enc) (C := Try.checked) false ⟨#[], #[.int .i64 0, .slice none 0 0, .slice none 0 0, .slice none 0 0], []⟩ 8 (by kernel_rfl) (by kernel_rfl) (by kernel_rfl) (by kernel_rfl)) ?_
  intro W base args ds gs before hval0 hW hcnd hsz _
  have hval : ∀ (j : Nat) t v, Try.f11.params[j]? = some t → args[j]? = some v → Value.okWide Try.prog W .any base t v := hval0
  have hW' := hW
  obtain ⟨p, q, hA0, hV, rfl, hfz, hnd⟩ := hW
  have hA : DataW.TrodAll enc Try.prog W 0 (fun _ => true) true Try.f11.params.toList args.toList ds p := hA0
  obtain ⟨hgs, _⟩ := trodVars_none hV
  rw [Try.params11] at hA hval
  obtain ⟨v0, vs0, d0, ds0, p0, q0, hargs, rfl, rfl, h0, r0⟩ := trodAll_cons hA
  obtain ⟨v1, vs1, d1, ds1, p1, q1, rfl, rfl, rfl, h1, r1⟩ := trodAll_cons r0
  obtain ⟨v2, vs2, d2, ds2, p2, q2, rfl, rfl, rfl, h2, r2⟩ := trodAll_cons r1
  obtain ⟨v3, vs3, d3, ds3, p3, q3, rfl, rfl, rfl, h3, r3⟩ := trodAll_cons r2
  obtain ⟨rfl, rfl, rfl⟩ := trodAll_nil r3
  have hargs2 : args = #[v0, v1, v2, v3] := Array.toList_inj.1 hargs
  subst hargs2
  obtain ⟨a0, rfl, _, _, w0⟩ := open_int Try.underlying3 (hval 0 3 v0 rfl rfl) h0
  obtain ⟨A1, c1, l1, rfl, lc1, cm1, x1, r1⟩ := open_stepsB (hval 1 49 v1 rfl rfl) h1
  have b1 := len_reach Try.underlying49 (hval 1 49 _ rfl rfl) h1 hsz (j := 1) (by rw [Try.params11]; rfl) rfl
  rw [show Try.prog.bytesOf (Try.prog.elem 49) = 40 from by kernel_rfl] at b1
  obtain ⟨A2, c2, l2, rfl, lc2, cm2, x2, r2⟩ := open_termsA (hval 2 50 v2 rfl rfl) h2
  have b2 := len_reach Try.underlying50 (hval 2 50 _ rfl rfl) h2 hsz (j := 2) (by rw [Try.params11]; rfl) rfl
  rw [show Try.prog.bytesOf (Try.prog.elem 50) = 32 from by kernel_rfl] at b2
  obtain ⟨A3, c3, l3, rfl, lc3, cm3, x3, r3⟩ := open_intsA (hval 3 39 v3 rfl rfl) h3
  have b3 := len_reach Try.underlying39 (hval 3 39 _ rfl rfl) h3 hsz (j := 3) (by rw [Try.params11]; rfl) rfl
  rw [show Try.prog.bytesOf (Try.prog.elem 39) = 8 from by kernel_rfl] at b3
  refine (lawWeakRule_any a0 A1 A2 A3 c1 c2 c3 l1 l2 l3 _ x1 lc1 (by omega) x2 x3 (by omega)).mono fun e W' ⟨he, hb⟩ => ?_
  subst he
  exact ⟨_, rfl, law_post Try.laidOut rfl (by kernel_rfl) Try.underlying4 ⟨rfl, rfl, rfl⟩ (by kernel_rfl) hW' hb⟩

theorem weakRule_holds : Rows.WeakRuleSaid :=
  OpenClaim.holds_of_wide 11 Try.f11 rfl rfl rfl rfl rfl rfl rfl ⟨rfl, rfl, rfl, rfl, rfl⟩ rfl rfl rfl rfl rfl (by kernel_rfl) Try.func11 (show joinedFacts Try.prog 11 Try.f11 Rows.weakRuleSpec Rows.weakRuleRow = true from (by unfold joinedFacts; (repeat' (with_reducible refine and_both ?_ ?_)) <;> first | (with_reducible exact may_enter) | ((with_reducible refine make_ok ?_); rfl) | ((with_reducible refine lifts_ok ?_); rfl) | kernel_rfl))
    (of_decide_eq_true (by kernel_rfl)) (by unfold Func.isWrapper; rw [if_neg (of_decide_eq_false (by kernel_rfl))]; exact ⟨rfl, rfl⟩)
    (fun os started H enc _ => lawWeakRule_lifted os started H enc)

end Go.Proofs.Ytfhnhbkdhdocjaa
