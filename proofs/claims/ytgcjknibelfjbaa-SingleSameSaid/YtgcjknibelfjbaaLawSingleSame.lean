/-
  A program and the named program that single.Build makes of it give the same, for all arguments (M3): codemasonkeep.SingleSame returns true and leaves its arguments alone. No condition.
-/
import Derived.Test.YtgcjknibelfjbaaMMade
import Derived.Test.YtgcjknibelfjbaaMSnDef
import Derived.Test.YtgcjknibelfjbaaSnRun
import Derived.Test.YtgcjknibelfjbaaMBlock
namespace Go.Proofs.Ytgcjknibelfjbaa
open Go.RowKit Go.ChangeShapes Go.WideShapes Go.ChangeAt Go.Deep
set_option linter.unusedSimpArgs false
set_option linter.unusedVariables false
set_option maxRecDepth 100000

theorem rdI_nilY (w : World) (A : Option Addr) : RdI w w.heap.size A [] := fun h => by simp at h

set_option maxHeartbeats 8000000 in
theorem lawSingleSame_any (vars : Int) (A HA : Option Addr) (cap hcap : Nat) (p : List Bk) (hv : List Int) (w : World) (hx : RdP w w.heap.size A p) (hh : RdI w w.heap.size HA hv) (hm : p.length ≤ maxLen) (hin : ∀ b ∈ p, InBk b) (hhm : hv.length ≤ maxLen) :
    Calls Try.prog 7 #[.int .i64 vars, .slice A p.length cap, .slice HA hv.length hcap] w fun e w' => e = .returned (.bool true) ∧ Below w.heap.size w w' := by
  have HIN := Lib.hid hin
  have HM := Lib.hid hm
  have HHM := Lib.hid hhm
  clear hin hm hhm
  by_cases hc : ckProg vars p = 0
  · obtain ⟨n, rfl, hn1, hn6⟩ := ckProg_nat hc
    have HC := Lib.hid hc
    obtain ⟨_, _, c3, c4, _⟩ := ckProg_bd hc
    obtain ⟨len, hlen⟩ : ∃ len, p.length = len := ⟨_, rfl⟩
    have HLEN := Lib.hid hlen
    rw [hlen] at c3 c4 ⊢
    have HBLD := Lib.hid (build_any n A len cap p w hx hlen hc)
    by_cases hhc : ckHave n hv = 0
    · have hvo := valsOk_of hhc
      have HVO := Lib.hid hvo
      have hvl := hvo.1
      rw [hvl]
      have HBR := Lib.hid (fun Z (h1 : RdP Z Z.heap.size A p) (h2 : RdI Z Z.heap.size HA hv) => blockRun_any n A HA len cap hcap p hv Z h1 h2 hlen hc hvo)
      obtain ⟨R, hR⟩ : ∃ R, goP p 200 0 hv = R := ⟨_, rfl⟩
      have HXL : Hid (∀ x l, R = some (x, l) → x.length ≤ maxLen) := Lib.hid fun x l h => by
        rw [← hR] at h
        obtain ⟨r, _, _, _, hxo⟩ := goP_way hc 200 0 hv x l (by rw [hlen]; omega) hvo h
        rw [hxo.1]
        unfold maxLen
        omega
      rw [hR] at HBR
      have HR := Lib.hid hR
      clear hc hhc hvo hlen hR hvl
      go_enter Try.func7, Try.ntmps7
      go_wp2_with fail
      refine HBLD.out.mono ?_
      rintro e w1 ⟨g, L, hmade, hLl, rfl, hL, hb1⟩
      have HMD := Lib.hid hmade
      have HLL := Lib.hid hLl
      have HV := Lib.hid hmade.valid
      have HON := Lib.hid hmade.once
      have HIS := Lib.hid (hmade.in (by rw [hLl, HLEN.out]) HIN.out)
      have HRN := Lib.hid (hmade.run HC.out HVO.out)
      rw [HR.out] at HRN
      have hx1 := (hx.below hb1 (Nat.le_refl _)).more hb1.size
      have hs1 := hb1.size
      clear hmade hLl HBLD
      go_wp2_with fail
      refine (refProgCheck_any n A len cap p _ hx1 HLEN.out (by rw [← HLEN.out]; exact HM.out) HIN.out).mono ?_
      rintro e w2 ⟨rfl, hb2⟩
      rw [HC.out]
      have hL2 := (hL.below hb2 (Nat.le_refl _)).more hb2.size
      have hb12 := hb1.trans (hb2.mono hs1)
      go_wp2_with fail
      refine (snOnce_any n (some ⟨g, 0, none⟩) len len L _ hL2 HLL.out HIS.out HV.out).mono ?_
      rintro e w3 ⟨b, rfl, hbo, hb3⟩
      have hbt : b = true := hbo.2 HON.out
      subst hbt
      have hL3 := (hL2.below hb3 (Nat.le_refl _)).more hb3.size
      have hb13 := hb12.trans (hb3.mono hb12.size)
      have hx3 := (hx.below hb13 (Nat.le_refl _)).more hb13.size
      have hh3 := (hh.below hb13 (Nat.le_refl _)).more hb13.size
      have HSR := Lib.hid (fun Z (h1 : RdN Z Z.heap.size (some ⟨g, 0, none⟩) L) (h2 : RdI Z Z.heap.size HA hv) => snRun_any n (some ⟨g, 0, none⟩) HA len len hcap L hv Z h1 h2 HLL.out HIS.out HV.out HVO.out)
      clear hbo
      go_wp2_with fail
      refine (HBR.out _ hx3 hh3).mono ?_
      rintro e w4 ⟨hrt, hb4⟩
      have hL4 := (hL3.below hb4 (Nat.le_refl _)).more hb4.size
      have hh4 := (hh3.below hb4 (Nat.le_refl _)).more hb4.size
      have hb14 := hb13.trans (hb4.mono hb13.size)
      rcases hrt with ⟨hr, A3, A4, k3, k4, rfl⟩ | ⟨x, l, A3, A4, k3, k4, hr, rfl, hr3, hr4⟩
      · rw [hr] at HRN
        clear hr
        go_wp2_with fail
        refine (HSR.out _ hL4 hh4).mono ?_
        rintro e w5 ⟨hst, hb5⟩
        rw [HRN.out] at hst
        have hb15 := hb14.trans (hb5.mono hb14.size)
        rcases hst with ⟨_, A5, k5, rfl⟩ | ⟨x, A5, k5, hr, _, _⟩
        · go_wp2_with fail
          refine (ints_same A3 A5 0 k3 k5 [] _ (rdI_nilY _ _) (rdI_nilY _ _) rfl (Nat.zero_le _)).mono ?_
          rintro e w6 ⟨rfl, hb6⟩
          go_wp2
          go_ret
          exact ⟨ret_bool (by simp), hb15.trans (hb6.mono hb15.size)⟩
        · cases hr
      · have hxm := HXL.out x l hr
        rw [hr] at HRN
        have HXM := Lib.hid hxm
        clear hxm hr
        go_wp2_with fail
        refine (HSR.out _ hL4 hh4).mono ?_
        rintro e w5 ⟨hst, hb5⟩
        rw [HRN.out] at hst
        have hb15 := hb14.trans (hb5.mono hb14.size)
        have hr35 := (hr3.below hb5 (Nat.le_refl _)).more hb5.size
        rcases hst with ⟨hr, _⟩ | ⟨x2, A5, k5, hr, rfl, hr5⟩
        · cases hr
        · simp only [Option.map_some, Option.some.injEq] at hr
          subst hr
          go_wp2_with fail
          refine (ints_same A3 A5 _ k3 k5 x _ hr35 hr5 rfl HXM.out).mono ?_
          rintro e w6 ⟨rfl, hb6⟩
          go_wp2
          go_ret
          exact ⟨ret_bool (by simp), hb15.trans (hb6.mono hb15.size)⟩
    · have hgo : ckGo n p hv = ckHave n hv := by unfold ckGo; rw [if_pos hc]
      have HBR := Lib.hid (fun Z (h1 : RdP Z Z.heap.size A p) (h2 : RdI Z Z.heap.size HA hv) => blockRun_bad n A HA len cap hv.length hcap p hv Z h1 h2 hlen (by rw [← hlen]; exact HM.out) HIN.out rfl HHM.out (by rw [hgo]; exact hhc))
      rw [hgo] at HBR
      have HHC := Lib.hid hhc
      clear hc hlen hgo hhc
      go_enter Try.func7, Try.ntmps7
      go_wp2_with fail
      refine HBLD.out.mono ?_
      rintro e w1 ⟨g, L, hmade, hLl, rfl, hL, hb1⟩
      have HLL := Lib.hid hLl
      have HV := Lib.hid hmade.valid
      have HON := Lib.hid hmade.once
      have HIS := Lib.hid (hmade.in (by rw [hLl, HLEN.out]) HIN.out)
      have hx1 := (hx.below hb1 (Nat.le_refl _)).more hb1.size
      have hs1 := hb1.size
      clear hmade hLl HBLD
      go_wp2_with fail
      refine (refProgCheck_any n A len cap p _ hx1 HLEN.out (by rw [← HLEN.out]; exact HM.out) HIN.out).mono ?_
      rintro e w2 ⟨rfl, hb2⟩
      rw [HC.out]
      have hL2 := (hL.below hb2 (Nat.le_refl _)).more hb2.size
      have hb12 := hb1.trans (hb2.mono hs1)
      go_wp2_with fail
      refine (snOnce_any n (some ⟨g, 0, none⟩) len len L _ hL2 HLL.out HIS.out HV.out).mono ?_
      rintro e w3 ⟨b, rfl, hbo, hb3⟩
      have hbt : b = true := hbo.2 HON.out
      subst hbt
      have hL3 := (hL2.below hb3 (Nat.le_refl _)).more hb3.size
      have hb13 := hb12.trans (hb3.mono hb12.size)
      have hx3 := (hx.below hb13 (Nat.le_refl _)).more hb13.size
      have hh3 := (hh.below hb13 (Nat.le_refl _)).more hb13.size
      have hrb : ckRunN n L hv = ckHave n hv := by unfold ckRunN; rw [if_pos HV.out]
      have HSR := Lib.hid (fun Z (h1 : RdN Z Z.heap.size (some ⟨g, 0, none⟩) L) (h2 : RdI Z Z.heap.size HA hv) => snRun_bad n (some ⟨g, 0, none⟩) HA len len hv.length hcap L hv Z h1 h2 HLL.out (by unfold maxLen; omega) HIS.out rfl HHM.out (by rw [hrb]; exact HHC.out))
      rw [hrb] at HSR
      obtain ⟨q, hq⟩ : ∃ q, ckHave n hv = q := ⟨_, rfl⟩
      rw [hq] at HSR HBR
      clear hbo hrb hq
      go_wp2_with fail
      refine (HBR.out _ hx3 hh3).mono ?_
      rintro e w4 ⟨A3, A4, k3, k4, rfl, hb4⟩
      have hL4 := (hL3.below hb4 (Nat.le_refl _)).more hb4.size
      have hh4 := (hh3.below hb4 (Nat.le_refl _)).more hb4.size
      have hb14 := hb13.trans (hb4.mono hb13.size)
      go_wp2_with fail
      refine (HSR.out _ hL4 hh4).mono ?_
      rintro e w5 ⟨A5, k5, rfl, hb5⟩
      have hb15 := hb14.trans (hb5.mono hb14.size)
      go_wp2_with fail
      refine (ints_same A3 A5 0 k3 k5 [] _ (rdI_nilY _ _) (rdI_nilY _ _) rfl (Nat.zero_le _)).mono ?_
      rintro e w6 ⟨rfl, hb6⟩
      go_wp2
      go_ret
      exact ⟨ret_bool (by simp), hb15.trans (hb6.mono hb15.size)⟩
  · have HB := Lib.hid (snBuild_bad vars A _ cap p w hx rfl HM.out HIN.out hc)
    have e1 : (ckProg vars p != 0) = true := by simp [hc]
    clear hc
    go_enter Try.func7, Try.ntmps7
    go_wp2_with fail
    refine HB.out.mono ?_
    rintro e w1 ⟨rfl, hb1⟩
    have hx1 := (hx.below hb1 (Nat.le_refl _)).more hb1.size
    go_wp2_with fail
    refine (refProgCheck_any vars A _ cap p _ hx1 rfl HM.out HIN.out).mono ?_
    rintro e w2 ⟨rfl, hb2⟩
    go_wp2
    go_ret
    exact ⟨ret_bool (by simp), hb1.trans (hb2.mono hb1.size)⟩

set_option maxRecDepth 100000 in
theorem lawSingleSame_lifted (os : Os) (started : os.Started) (H : Type) (enc : TypeId × Value → H) :
    ReturnsInHanded {} Try.checked os 7 .any (Rows.singleSameSpec.pre6 enc Try.prog Try.f7 Rows.singleSameRow.domain false) (Rows.singleSameSpec.post enc Try.prog Try.f7 false true false false) := by
  refine returnsInHanded_of_change_sized (C := Try.checked) Try.own started (by kernel_rfl) Try.func7
    (ChangeSpec.witness6 (enc := enc) (C := Try.checked) false ⟨#[], #[.int .i64 0, .slice none 0 0, .slice none 0 0], []⟩ 8 (by kernel_rfl) (by kernel_rfl) (by kernel_rfl) (by kernel_rfl)) ?_
  intro W base args ds gs before hval0 hW hcnd hsz _
  have hval : ∀ (j : Nat) t v, Try.f7.params[j]? = some t → args[j]? = some v → Value.okWide Try.prog W .any base t v := hval0
  have hW' := hW
  obtain ⟨p, q, hA0, hV, rfl, hfz, hnd⟩ := hW
  have hA : DataW.TrodAll enc Try.prog W 0 (fun _ => true) true Try.f7.params.toList args.toList ds p := hA0
  obtain ⟨hgs, _⟩ := trodVars_none hV
  rw [Try.params7] at hA hval
  obtain ⟨v0, vs0, d0, ds0, p0, q0, hargs, rfl, rfl, h0, r0⟩ := trodAll_cons hA
  obtain ⟨v1, vs1, d1, ds1, p1, q1, rfl, rfl, rfl, h1, r1⟩ := trodAll_cons r0
  obtain ⟨v2, vs2, d2, ds2, p2, q2, rfl, rfl, rfl, h2, r2⟩ := trodAll_cons r1
  obtain ⟨rfl, rfl, rfl⟩ := trodAll_nil r2
  have hargs2 : args = #[v0, v1, v2] := Array.toList_inj.1 hargs
  subst hargs2
  obtain ⟨a0, rfl, _, _, w0⟩ := open_int Try.underlying3 (hval 0 3 v0 rfl rfl) h0
  obtain ⟨A1, c1, l1, rfl, lc1, cm1, x1, g1⟩ := open_progA (reach_at hsz (j := 1) (t := 36) (by rw [Try.params7]; rfl) rfl) (hval 1 36 v1 rfl rfl) h1
  have b1 := len_reach Try.underlying36 (hval 1 36 _ rfl rfl) h1 hsz (j := 1) (by rw [Try.params7]; rfl) rfl
  rw [show Try.prog.bytesOf (Try.prog.elem 36) = 48 from by kernel_rfl] at b1
  obtain ⟨A2, c2, l2, rfl, lc2, cm2, x2, r2⟩ := open_intsA (hval 2 26 v2 rfl rfl) h2
  have b2 := len_reach Try.underlying26 (hval 2 26 _ rfl rfl) h2 hsz (j := 2) (by rw [Try.params7]; rfl) rfl
  rw [show Try.prog.bytesOf (Try.prog.elem 26) = 8 from by kernel_rfl] at b2
  refine (lawSingleSame_any a0 A1 A2 c1 c2 l1 l2 _ x1 x2 (by omega) g1 (by omega)).mono fun e W' ⟨he, hb⟩ => ?_
  subst he
  exact ⟨_, rfl, law_post Try.laidOut rfl (by kernel_rfl) Try.underlying4 ⟨rfl, rfl, rfl⟩ (by kernel_rfl) hW' hb⟩

theorem singleSame_holds : Rows.SingleSameSaid :=
  OpenClaim.holds_of_wide 7 Try.f7 rfl rfl rfl rfl rfl rfl rfl ⟨rfl, rfl, rfl, rfl, rfl⟩ rfl rfl rfl rfl rfl (by kernel_rfl) Try.func7 (show joinedFacts Try.prog 7 Try.f7 Rows.singleSameSpec Rows.singleSameRow = true from (by unfold joinedFacts; (repeat' (with_reducible refine and_both ?_ ?_)) <;> first | (with_reducible exact may_enter) | ((with_reducible refine make_ok ?_); rfl) | ((with_reducible refine lifts_ok ?_); rfl) | kernel_rfl))
    (of_decide_eq_true (by kernel_rfl)) (by unfold Func.isWrapper; rw [if_neg (of_decide_eq_false (by kernel_rfl))]; exact ⟨rfl, rfl⟩)
    (fun os started H enc _ => lawSingleSame_lifted os started H enc)

end Go.Proofs.Ytgcjknibelfjbaa
