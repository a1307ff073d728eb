/-
  For any number of variables, any pointer assignments and any script, point.Run returns what each variable points to, or the first error (V1).
-/
import Derived.Test.YtfbnmgnkigfgpaaLawPoint
import Derived.Test.YtfbnmgnkigfgpaaPtRef
import Derived.Test.YtfbnmgnkigfgpaaIntsSame
namespace Go.Proofs.Ytfbnmgnkigfgpaa
open Go.RowKit Go.ChangeShapes Go.WideShapes Go.ChangeAt Go.Deep
set_option linter.unusedSimpArgs false
set_option linter.unusedVariables false
set_option maxRecDepth 100000

set_option maxHeartbeats 4000000 in
theorem lawPointRuns_any (n : Int) (A : Option Addr) (cap : Nat) (l : List Pz) (A2 : Option Addr) (cap2 : Nat) (s : List Int) (w : World) (hx : RdPz w w.heap.size A l) (hm : l.length ≤ maxLen) (hy : RdI w w.heap.size A2 s) (hm2 : s.length ≤ maxLen) :
    Calls Try.prog 5 #[.int .i64 n, .slice A l.length cap, .slice A2 s.length cap2] w fun e w' => e = .returned (.bool true) ∧ Below w.heap.size w w' := by
  obtain ⟨len, hlen⟩ : ∃ len, l.length = len := ⟨_, rfl⟩
  obtain ⟨len2, hlen2⟩ : ∃ len, s.length = len := ⟨_, rfl⟩
  have HLI := Lib.hid hlen
  have HLI2 := Lib.hid hlen2
  rw [hlen] at hm ⊢
  rw [hlen2] at hm2 ⊢
  have HM := Lib.hid hm
  have HM2 := Lib.hid hm2
  by_cases hc : ckGo n l s = 0
  · have HC := Lib.hid hc
    obtain ⟨c1, c2, c3⟩ := ckGo_ok hc
    obtain ⟨k, q, rfl, k1, k8, rfl, q12, hq⟩ := ckPz_ok c1
    rw [hlen] at c3
    obtain ⟨ks, rfl, hks⟩ := insideB_nat c3
    rw [hlen2] at c2
    have hql : q.length = len := by rw [← qI_len]; exact hlen
    have hkl : ks.length = len2 := by rw [← pn_len]; exact hlen2
    rw [hql] at q12
    have HR := Lib.hid (ptRun_ok k A len cap q A2 len2 cap2 ks w hx hql hq k1 k8 q12 hy hkl c2 hks)
    have HP := Lib.hid (fun (Z : World) (h1 : RdPz Z Z.heap.size A (qI q)) (h2 : RdI Z Z.heap.size A2 (ni ks)) => pointed_any k A len cap q A2 len2 cap2 ks Z h1 hql hq k1 k8 q12 h2 hkl c2 hks)
    have HS : Hid ((goPt q ks (List.replicate k (-1))).length = k) := Lib.hid (goPt_ok hq ks (PvI.start k) (PvS.start q k)).1.len
    have HK : Hid (k ≤ maxLen) := Lib.hid (by unfold maxLen; omega)
    clear hc hlen hlen2 hm hm2 c1 c2 c3 hql hkl hks hq q12
    go_enter Try.func5, Try.ntmps5
    go_wp2_with fail
    refine HR.out.mono ?_
    rintro e w1 ⟨A3, c3, rfl, hr3, hb1⟩
    have hx1 := (hx.below hb1 (Nat.le_refl _)).more hb1.size
    have hy1 := (hy.below hb1 (Nat.le_refl _)).more hb1.size
    go_wp2_with fail
    refine (pointCheck_any k A len cap (qI q) A2 len2 cap2 (ni ks) _ hx1 HLI.out HM.out hy1 HLI2.out HM2.out).mono ?_
    rintro e w2 ⟨rfl, hb2⟩
    rw [HC.out]
    have hx2 := (hx1.below hb2 (Nat.le_refl _)).more hb2.size
    have hy2 := (hy1.below hb2 (Nat.le_refl _)).more hb2.size
    have hr3b := (hr3.below hb2 (Nat.le_refl _)).more hb2.size
    go_wp2_with fail
    refine (HP.out _ hx2 hy2).mono ?_
    rintro e w3 ⟨A4, c4, rfl, hr4, hb3⟩
    have hr3c := (hr3b.below hb3 (Nat.le_refl _)).more hb3.size
    go_wp2_with fail
    refine (ints_same A3 A4 k c3 c4 _ _ hr3c hr4 HS.out HK.out).mono ?_
    rintro e w4 ⟨rfl, hb4⟩
    go_wp2
    go_ret
    exact ⟨ret_bool (by simp), hb1.trans ((hb2.trans ((hb3.trans (hb4.mono hb3.size)).mono hb2.size)).mono hb1.size)⟩
  · have HR := Lib.hid (ptRun_bad n A len cap l A2 len2 cap2 s w hx hlen hm hy hlen2 hm2 hc)
    obtain ⟨x, hx0⟩ : ∃ x, ckGo n l s = x := ⟨_, rfl⟩
    have HX := Lib.hid hx0
    have hne : (x != 0) = true := by rw [← hx0]; simp [hc]
    have hxx : (x == x) = true := by simp
    rw [hx0] at HR
    clear hc hlen hlen2 hx0 hm hm2
    go_enter Try.func5, Try.ntmps5
    go_wp2_with fail
    refine HR.out.mono ?_
    rintro e w1 ⟨rfl, hb1⟩
    have hx1 := (hx.below hb1 (Nat.le_refl _)).more hb1.size
    have hy1 := (hy.below hb1 (Nat.le_refl _)).more hb1.size
    go_wp2_with fail
    refine (pointCheck_any n A len cap l A2 len2 cap2 s _ hx1 HLI.out HM.out hy1 HLI2.out HM2.out).mono ?_
    rintro e w2 ⟨rfl, hb2⟩
    rw [HX.out]
    go_wp2
    go_ret
    exact ⟨ret_bool (by simp), hb1.trans (hb2.mono hb1.size)⟩

set_option maxRecDepth 100000 in
theorem lawPointRuns_lifted (os : Os) (started : os.Started) (H : Type) (enc : TypeId × Value → H) :
    ReturnsInHanded {} Try.checked os 5 .any (Rows.pointRunsSpec.pre6 enc Try.prog Try.f5 Rows.pointRunsRow.domain false) (Rows.pointRunsSpec.post enc Try.prog Try.f5 false true false false) := by
  refine returnsInHanded_of_change_sized (C := Try.checked) Try.own started (by kernel_rfl) Try.func5
    (ChangeSpec.witness6 (enc := enc) (C := Try.checked) false ⟨#[], #[.int .i64 0, .slice none 0 0, .slice none 0 0], []⟩ 8 (by kernel_rfl) (by kernel_rfl) (by kernel_rfl) (by kernel_rfl)) ?_
  intro W base args ds gs before hval0 hW hcnd hsz _
  have hval : ∀ (j : Nat) t v, Try.f5.params[j]? = some t → args[j]? = some v → Value.okWide Try.prog W .any base t v := hval0
  have hW' := hW
  obtain ⟨p, q, hA0, hV, rfl, hfz, hnd⟩ := hW
  have hA : DataW.TrodAll enc Try.prog W 0 (fun _ => true) true Try.f5.params.toList args.toList ds p := hA0
  obtain ⟨hgs, _⟩ := trodVars_none hV
  rw [Try.params5] at hA hval
  obtain ⟨v0, vs0, d0, ds0, p0, q0, hargs, rfl, rfl, h0, r0⟩ := trodAll_cons hA
  obtain ⟨v1, vs1, d1, ds1, p1, q1, rfl, rfl, rfl, h1, r1⟩ := trodAll_cons r0
  obtain ⟨v2, vs2, d2, ds2, p2, q2, rfl, rfl, rfl, h2, r2⟩ := trodAll_cons r1
  obtain ⟨rfl, rfl, rfl⟩ := trodAll_nil r2
  have hargs2 : args = #[v0, v1, v2] := Array.toList_inj.1 hargs
  subst hargs2
  obtain ⟨a0, rfl, _, _, w0⟩ := open_int Try.underlying3 (hval 0 3 v0 rfl rfl) h0
  obtain ⟨A1, c1, l1, rfl, lc1, cm1, x1, r1⟩ := open_pointsA (hval 1 22 v1 rfl rfl) h1
  have b1 := len_reach Try.underlying22 (hval 1 22 _ rfl rfl) h1 hsz (j := 1) (by rw [Try.params5]; rfl) rfl
  rw [show Try.prog.bytesOf (Try.prog.elem 22) = 24 from by kernel_rfl] at b1
  obtain ⟨A2, c2, l2, rfl, lc2, cm2, x2, r2⟩ := open_intsA (hval 2 31 v2 rfl rfl) h2
  have b2 := len_reach Try.underlying31 (hval 2 31 _ rfl rfl) h2 hsz (j := 2) (by rw [Try.params5]; rfl) rfl
  rw [show Try.prog.bytesOf (Try.prog.elem 31) = 8 from by kernel_rfl] at b2
  refine (lawPointRuns_any a0 A1 c1 l1 A2 c2 l2 _ x1 (by unfold maxLen; omega) x2 (by unfold maxLen; omega)).mono fun e W' ⟨he, hb⟩ => ?_
  subst he
  exact ⟨_, rfl, law_post Try.laidOut rfl (by kernel_rfl) Try.underlying4 ⟨rfl, rfl, rfl⟩ (by kernel_rfl) hW' hb⟩

theorem pointRuns_holds : Rows.PointRunsSaid :=
  OpenClaim.holds_of_wide 5 Try.f5 rfl rfl rfl rfl rfl rfl rfl ⟨rfl, rfl, rfl, rfl, rfl⟩ rfl rfl rfl rfl rfl (by kernel_rfl) Try.func5 (show joinedFacts Try.prog 5 Try.f5 Rows.pointRunsSpec Rows.pointRunsRow = true from (by unfold joinedFacts; (repeat' (with_reducible refine and_both ?_ ?_)) <;> first | (with_reducible exact may_enter) | ((with_reducible refine make_ok ?_); rfl) | ((with_reducible refine lifts_ok ?_); rfl) | kernel_rfl))
    (of_decide_eq_true (by kernel_rfl)) (by unfold Func.isWrapper; rw [if_neg (of_decide_eq_false (by kernel_rfl))]; exact ⟨rfl, rfl⟩)
    (fun os started H enc _ => lawPointRuns_lifted os started H enc)

end Go.Proofs.Ytfbnmgnkigfgpaa
