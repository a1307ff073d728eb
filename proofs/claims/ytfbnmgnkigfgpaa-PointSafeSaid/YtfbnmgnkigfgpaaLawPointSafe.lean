/-
  For any pointer assignments and any script: what a variable points to behind it is in the set that point.Within tells (V1, V2).
-/
import Derived.Test.YtfbnmgnkigfgpaaLawPoint
import Derived.Test.YtfbnmgnkigfgpaaPtInc
import Derived.Test.YtfbnmgnkigfgpaaPtRun
namespace Go.Proofs.Ytfbnmgnkigfgpaa
open Go.RowKit Go.ChangeShapes Go.WideShapes Go.ChangeAt Go.Deep
set_option linter.unusedSimpArgs false
set_option linter.unusedVariables false
set_option maxRecDepth 100000

theorem bit_toldQ {W x : Nat} (h : W.testBit x = true) (hx : x < 32) (w : World) (hW : W < 4294967296) :
    Calls Try.prog 18 #[.int .u32 (W : Nat), .int .i64 x] w fun e w' => e = .returned (.bool true) ∧ w' = w :=
  (bit_any W x w hW).mono fun e w' ⟨h1, h2⟩ => ⟨by
    rw [h1]
    refine ret_bool ?_
    unfold bitB
    rw [Int.toNat_natCast, h, Bool.and_true, decide_eq_true_eq]
    omega, h2.symm⟩

set_option maxHeartbeats 8000000 in
theorem lawPointSafe_any (n : Int) (A : Option Addr) (cap : Nat) (l : List Pz) (A2 : Option Addr) (cap2 : Nat) (s : List Int) (w : World) (hx : RdPz w w.heap.size A l) (hm : l.length ≤ maxLen) (hy : RdI w w.heap.size A2 s) (hm2 : s.length ≤ maxLen) :
    Calls Try.prog 6 #[.int .i64 n, .slice A l.length cap, .slice A2 s.length cap2] w fun e w' => e = .returned (.bool true) ∧ Below w.heap.size w w' := by
  obtain ⟨len, hlen⟩ : ∃ len, l.length = len := ⟨_, rfl⟩
  obtain ⟨len2, hlen2⟩ : ∃ len, s.length = len := ⟨_, rfl⟩
  have HLI := Lib.hid hlen
  rw [hlen] at hm ⊢
  rw [hlen2] at hm2 ⊢
  have HM := Lib.hid hm
  by_cases hc : ckPz n l = 0
  · have HC := Lib.hid hc
    obtain ⟨k, q, rfl, k1, k8, rfl, q12, hq⟩ := ckPz_ok hc
    have hql : q.length = len := by rw [← qI_len]; exact hlen
    rw [hql] at q12
    have HW := Lib.hid (within_any k A len cap q w hx hql hq k1 k8 q12)
    by_cases hg : ckGo k (qI q) s = 0
    · obtain ⟨_, c2, c3⟩ := ckGo_ok hg
      rw [hlen] at c3
      obtain ⟨ks, rfl, hks⟩ := insideB_nat c3
      rw [hlen2] at c2
      have hkl : ks.length = len2 := by rw [← pn_len]; exact hlen2
      have HR := Lib.hid (fun (Z : World) (h1 : RdPz Z Z.heap.size A (qI q)) (h2 : RdI Z Z.heap.size A2 (ni ks)) => ptRun_ok k A len cap q A2 len2 cap2 ks Z h1 hql hq k1 k8 q12 h2 hkl c2 hks)
      obtain ⟨v, hv⟩ : ∃ v, goPt q ks (List.replicate k (-1)) = v := ⟨_, rfl⟩
      have hgo := goPt_ok hq ks (PvI.start k) (PvS.start q k)
      rw [hv] at hgo
      rw [hv] at HR
      have HGO := Lib.hid hgo
      clear hc hg hlen hlen2 hm hm2 hql hkl hks hq q12 c2 c3 hv hgo
      go_enter Try.func6, Try.ntmps6
      go_wp2_with fail
      refine HW.out.mono ?_
      rintro e w1 ⟨S, A3, c3, hT3, rfl, hr3, hb1⟩
      have hx1 := (hx.below hb1 (Nat.le_refl _)).more hb1.size
      have hy1 := (hy.below hb1 (Nat.le_refl _)).more hb1.size
      have HT3 := Lib.hid hT3
      clear hT3
      go_wp2_with fail
      refine (HR.out _ hx1 hy1).mono ?_
      rintro e w2 ⟨A4, c4, rfl, hr4, hb2⟩
      have hx2 := (hx1.below hb2 (Nat.le_refl _)).more hb2.size
      have hr3b := (hr3.below hb2 (Nat.le_refl _)).more hb2.size
      go_wp2_with fail
      refine (pointCheck_nil k A len cap (qI q) _ hx2 HLI.out HM.out).mono ?_
      rintro e w3 ⟨rfl, hb3⟩
      rw [HC.out]
      have hr3c := (hr3b.below hb3 (Nat.le_refl _)).more hb3.size
      have hr4c := (hr4.below hb3 (Nat.le_refl _)).more hb3.size
      have hbw : Below w.heap.size w w3 := hb1.trans ((hb2.trans (hb3.mono hb2.size)).mono hb1.size)
      go_wp2
      go_loop [55] (fun i => ∃ j : Nat, j ≤ k ∧ i = .int .i64 j) (fun i => k - (intOf i).toNat)
      case atStart => exact ⟨0, Nat.zero_le _, rfl⟩
      case round =>
        obtain ⟨j, hj, rfl⟩ := hrel
        by_cases hlt : j < k
        · obtain ⟨ad, x, rfl, hbl, hd, hcx⟩ := hr4c.at_ (k := j) (by rw [HGO.out.1.len]; exact hlt)
          obtain ⟨ad2, W, rfl, hbl2, hW, hcW⟩ := hr3c.at_ (k := j) (by rw [HT3.out.len]; exact hlt)
          by_cases hx0 : 0 ≤ x
          · obtain ⟨xn, rfl⟩ := Int.eq_ofNat_of_zero_le hx0
            have hbt : W.testBit xn = true := by
              have h := (HT3.out.bit j xn hlt).2 (HGO.out.2 j xn hd)
              unfold Bt at h
              rw [getD_at hW] at h
              exact h
            have hxk := (HGO.out.1.rng j _ hd).2
            have hW8 := HT3.out.lt j W hW
            have HB := Lib.hid (fun Z => bit_toldQ hbt (by omega) Z (by omega))
            clear hd hW hbt
            go_wp2_with (go_at_call 18; (with_reducible refine (HB.out _).mono ?_); rintro e w5 ⟨rfl, rfl⟩)
            go_round
            case rel => exact ⟨j + 1, by omega, by go_num⟩
            case measure => (simp [intOf]; omega)
          · clear hd hW
            go_wp2
            go_round
            case rel => exact ⟨j + 1, by omega, by go_num⟩
            case measure => (simp [intOf]; omega)
        · go_wp2
          go_ret
          exact ⟨rfl, hbw⟩
    · have HR := Lib.hid (fun (Z : World) (h1 : RdPz Z Z.heap.size A (qI q)) (h2 : RdI Z Z.heap.size A2 s) => ptRun_bad k A len cap (qI q) A2 len2 cap2 s Z h1 hlen hm h2 hlen2 hm2 hg)
      obtain ⟨x, hx0⟩ : ∃ x, ckGo k (qI q) s = x := ⟨_, rfl⟩
      have hne : (x != 0) = true := by rw [← hx0]; simp [hg]
      rw [hx0] at HR
      clear hc hg hlen hlen2 hm hm2 hql hq q12 hx0
      go_enter Try.func6, Try.ntmps6
      go_wp2_with fail
      refine HW.out.mono ?_
      rintro e w1 ⟨S, A3, c3, hT3, rfl, hr3, hb1⟩
      have hx1 := (hx.below hb1 (Nat.le_refl _)).more hb1.size
      have hy1 := (hy.below hb1 (Nat.le_refl _)).more hb1.size
      clear hT3
      go_wp2_with fail
      refine (HR.out _ hx1 hy1).mono ?_
      rintro e w2 ⟨rfl, hb2⟩
      have hx2 := (hx1.below hb2 (Nat.le_refl _)).more hb2.size
      go_wp2_with fail
      refine (pointCheck_nil k A len cap (qI q) _ hx2 HLI.out HM.out).mono ?_
      rintro e w3 ⟨rfl, hb3⟩
      rw [HC.out]
      go_wp2
      go_ret
      exact ⟨rfl, hb1.trans ((hb2.trans (hb3.mono hb2.size)).mono hb1.size)⟩
  · have hg : ckGo n l s ≠ 0 := fun h => hc (ckGo_ok h).1
    have HW := Lib.hid (within_bad n A len cap l w hx hlen hm hc)
    have HR := Lib.hid (fun (Z : World) (h1 : RdPz Z Z.heap.size A l) (h2 : RdI Z Z.heap.size A2 s) => ptRun_bad n A len cap l A2 len2 cap2 s Z h1 hlen hm h2 hlen2 hm2 hg)
    obtain ⟨x, hx0⟩ : ∃ x, ckGo n l s = x := ⟨_, rfl⟩
    obtain ⟨y, hy0⟩ : ∃ x, ckPz n l = x := ⟨_, rfl⟩
    have hne : (x != 0) = true := by rw [← hx0]; simp [hg]
    have hne2 : (y != 0) = true := by rw [← hy0]; simp [hc]
    have HY := Lib.hid hy0
    rw [hx0] at HR
    rw [hy0] at HW
    clear hc hg hlen hlen2 hm hm2 hx0 hy0
    go_enter Try.func6, Try.ntmps6
    go_wp2_with fail
    refine HW.out.mono ?_
    rintro e w1 ⟨rfl, hb1⟩
    have hx1 := (hx.below hb1 (Nat.le_refl _)).more hb1.size
    have hy1 := (hy.below hb1 (Nat.le_refl _)).more hb1.size
    go_wp2_with fail
    refine (HR.out _ hx1 hy1).mono ?_
    rintro e w2 ⟨rfl, hb2⟩
    have hx2 := (hx1.below hb2 (Nat.le_refl _)).more hb2.size
    go_wp2_with fail
    refine (pointCheck_nil n A len cap l _ hx2 HLI.out HM.out).mono ?_
    rintro e w3 ⟨rfl, hb3⟩
    rw [HY.out]
    go_wp2
    go_ret
    exact ⟨ret_bool (by simp), hb1.trans ((hb2.trans (hb3.mono hb2.size)).mono hb1.size)⟩

set_option maxRecDepth 100000 in
theorem lawPointSafe_lifted (os : Os) (started : os.Started) (H : Type) (enc : TypeId × Value → H) :
    ReturnsInHanded {} Try.checked os 6 .any (Rows.pointSafeSpec.pre6 enc Try.prog Try.f6 Rows.pointSafeRow.domain false) (Rows.pointSafeSpec.post enc Try.prog Try.f6 false true false false) := by
  refine returnsInHanded_of_change_sized (C := Try.checked) Try.own started (by kernel_rfl) Try.func6
    (ChangeSpec.witness6 (enc := enc) (C := Try.checked) false ⟨#[], #[.int .i64 0, .slice none 0 0, .slice none 0 0], []⟩ 8 (by kernel_rfl) (by kernel_rfl) (by kernel_rfl) (by kernel_rfl)) ?_
  intro W base args ds gs before hval0 hW hcnd hsz _
  have hval : ∀ (j : Nat) t v, Try.f6.params[j]? = some t → args[j]? = some v → Value.okWide Try.prog W .any base t v := hval0
  have hW' := hW
  obtain ⟨p, q, hA0, hV, rfl, hfz, hnd⟩ := hW
  have hA : DataW.TrodAll enc Try.prog W 0 (fun _ => true) true Try.f6.params.toList args.toList ds p := hA0
  obtain ⟨hgs, _⟩ := trodVars_none hV
  rw [Try.params6] at hA hval
  obtain ⟨v0, vs0, d0, ds0, p0, q0, hargs, rfl, rfl, h0, r0⟩ := trodAll_cons hA
  obtain ⟨v1, vs1, d1, ds1, p1, q1, rfl, rfl, rfl, h1, r1⟩ := trodAll_cons r0
  obtain ⟨v2, vs2, d2, ds2, p2, q2, rfl, rfl, rfl, h2, r2⟩ := trodAll_cons r1
  obtain ⟨rfl, rfl, rfl⟩ := trodAll_nil r2
  have hargs2 : args = #[v0, v1, v2] := Array.toList_inj.1 hargs
  subst hargs2
  obtain ⟨a0, rfl, _, _, w0⟩ := open_int Try.underlying3 (hval 0 3 v0 rfl rfl) h0
  obtain ⟨A1, c1, l1, rfl, lc1, cm1, x1, r1⟩ := open_pointsA (hval 1 22 v1 rfl rfl) h1
  have b1 := len_reach Try.underlying22 (hval 1 22 _ rfl rfl) h1 hsz (j := 1) (by rw [Try.params6]; rfl) rfl
  rw [show Try.prog.bytesOf (Try.prog.elem 22) = 24 from by kernel_rfl] at b1
  obtain ⟨A2, c2, l2, rfl, lc2, cm2, x2, r2⟩ := open_intsA (hval 2 31 v2 rfl rfl) h2
  have b2 := len_reach Try.underlying31 (hval 2 31 _ rfl rfl) h2 hsz (j := 2) (by rw [Try.params6]; rfl) rfl
  rw [show Try.prog.bytesOf (Try.prog.elem 31) = 8 from by kernel_rfl] at b2
  refine (lawPointSafe_any a0 A1 c1 l1 A2 c2 l2 _ x1 (by unfold maxLen; omega) x2 (by unfold maxLen; omega)).mono fun e W' ⟨he, hb⟩ => ?_
  subst he
  exact ⟨_, rfl, law_post Try.laidOut rfl (by kernel_rfl) Try.underlying4 ⟨rfl, rfl, rfl⟩ (by kernel_rfl) hW' hb⟩

theorem pointSafe_holds : Rows.PointSafeSaid :=
  OpenClaim.holds_of_wide 6 Try.f6 rfl rfl rfl rfl rfl rfl rfl ⟨rfl, rfl, rfl, rfl, rfl⟩ rfl rfl rfl rfl rfl (by kernel_rfl) Try.func6 (show joinedFacts Try.prog 6 Try.f6 Rows.pointSafeSpec Rows.pointSafeRow = true from (by unfold joinedFacts; (repeat' (with_reducible refine and_both ?_ ?_)) <;> first | (with_reducible exact may_enter) | ((with_reducible refine make_ok ?_); rfl) | ((with_reducible refine lifts_ok ?_); rfl) | kernel_rfl))
    (of_decide_eq_true (by kernel_rfl)) (by unfold Func.isWrapper; rw [if_neg (of_decide_eq_false (by kernel_rfl))]; exact ⟨rfl, rfl⟩)
    (fun os started H enc _ => lawPointSafe_lifted os started H enc)

end Go.Proofs.Ytfbnmgnkigfgpaa
