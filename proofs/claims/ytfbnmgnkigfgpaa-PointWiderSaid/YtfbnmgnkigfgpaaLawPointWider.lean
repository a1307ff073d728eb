/-
  For any pointer assignments: the sets that point.Within tells lie within those that point.Joined tells; of two variables the latter are the same, or have nothing in common (V2).
-/
import Derived.Test.YtfbnmgnkigfgpaaLawPoint
import Derived.Test.YtfbnmgnkigfgpaaPtJd
namespace Go.Proofs.Ytfbnmgnkigfgpaa
open Go.RowKit Go.ChangeShapes Go.WideShapes Go.ChangeAt Go.Deep
set_option linter.unusedSimpArgs false
set_option linter.unusedVariables false
set_option maxRecDepth 100000

theorem inQ_true {a b : Nat} (h : a ||| b = b) (ha : a < 4294967296) (hb : b < 4294967296) (w : World) :
    Calls Try.prog 19 #[.int .u32 (a : Int), .int .u32 (b : Int)] w fun e w' => e = .returned (.bool true) ∧ w' = w := by
  have hor : bits .or .u32 ((a : Nat) : Int) ((b : Nat) : Int) = ((b : Nat) : Int) := by rw [u32_or_nat _ _ ha hb, h]
  have HOR := Lib.hid hor
  clear hor h
  go_enter Try.func19, Try.ntmps19
  go_wp2
  go_ret
  exact ⟨ret_bool (by rw [HOR.out]; simp), rfl⟩

theorem sub_or {a b : Nat} (h : ∀ x, a.testBit x = true → b.testBit x = true) : a ||| b = b := by
  apply Nat.eq_of_testBit_eq
  intro x
  rw [Nat.testBit_or]
  cases ha : a.testBit x with
  | false => rfl
  | true => rw [h x ha]; rfl

theorem and_some {a b : Nat} (h : a &&& b ≠ 0) : ∃ x, a.testBit x = true ∧ b.testBit x = true := by
  refine Classical.byContradiction fun hn => h (Nat.eq_of_testBit_eq fun x => ?_)
  rw [Nat.testBit_and, Nat.zero_testBit]
  cases ha : a.testBit x with
  | false => rfl
  | true =>
    cases hb : b.testBit x with
    | false => rfl
    | true => exact absurd ⟨x, ha, hb⟩ hn

set_option maxHeartbeats 8000000 in
theorem lawPointWider_any (n : Int) (A : Option Addr) (cap : Nat) (l : List Pz) (w : World) (hx : RdPz w w.heap.size A l) (hm : l.length ≤ maxLen) :
    Calls Try.prog 7 #[.int .i64 n, .slice A l.length cap] w fun e w' => e = .returned (.bool true) ∧ Below w.heap.size w w' := by
  obtain ⟨len, hlen⟩ : ∃ len, l.length = len := ⟨_, rfl⟩
  have HLI := Lib.hid hlen
  rw [hlen] at hm ⊢
  have HM := Lib.hid hm
  by_cases hc : ckPz n l = 0
  · have HC := Lib.hid hc
    obtain ⟨k, q, rfl, k1, k8, rfl, q12, hq⟩ := ckPz_ok hc
    have hql : q.length = len := by rw [← qI_len]; exact hlen
    rw [hql] at q12
    have HW := Lib.hid (within_any k A len cap q w hx hql hq k1 k8 q12)
    have HJ := Lib.hid (fun (Z : World) (h1 : RdPz Z Z.heap.size A (qI q)) => joined_any k A len cap q Z h1 hql hq k1 k8 q12)
    clear hc hlen hm hql hq q12
    go_enter Try.func7, Try.ntmps7
    go_wp2_with fail
    refine HW.out.mono ?_
    rintro e w1 ⟨S, A3, c3, hT3, rfl, hr3, hb1⟩
    have hx1 := (hx.below hb1 (Nat.le_refl _)).more hb1.size
    have HT3 := Lib.hid hT3
    clear hT3
    go_wp2_with fail
    refine (HJ.out _ hx1).mono ?_
    rintro e w2 ⟨R, A4, c4, hT4, rfl, hr4, hb2⟩
    have hx2 := (hx1.below hb2 (Nat.le_refl _)).more hb2.size
    have hr3b := (hr3.below hb2 (Nat.le_refl _)).more hb2.size
    have HT4 := Lib.hid hT4
    clear hT4
    go_wp2_with fail
    refine (pointCheck_nil k A len cap (qI q) _ hx2 HLI.out HM.out).mono ?_
    rintro e w3 ⟨rfl, hb3⟩
    rw [HC.out]
    have hr3c := (hr3b.below hb3 (Nat.le_refl _)).more hb3.size
    have hr4c := (hr4.below hb3 (Nat.le_refl _)).more hb3.size
    have hbw : Below w.heap.size w w3 := hb1.trans ((hb2.trans (hb3.mono hb2.size)).mono hb1.size)
    have hs3 := hbw.size
    have HBW := Lib.hid hbw
    clear hb1 hb2 hb3 hbw hr3 hr4 hr3b hx1 hx2
    go_wp2
    go_loopw [9] (fun i wr => ∃ j : Nat, j ≤ k ∧ i = .int .i64 j ∧ Below w3.heap.size w3 wr) (fun i _ => k - (intOf i).toNat)
    case atStart => exact ⟨0, Nat.zero_le _, rfl, Below.refl _ _⟩
    case round =>
      obtain ⟨i, hi, rfl, hb⟩ := hrel
      by_cases hlt : i < k
      · obtain ⟨ad, W, rfl, hbl, hW, hcW⟩ := (hr3c.below hb (Nat.le_refl _)).at_ (k := i) (by rw [HT3.out.len]; exact hlt)
        obtain ⟨ad2, V, rfl, hbl2, hV, hcV⟩ := (hr4c.below hb (Nat.le_refl _)).at_ (k := i) (by rw [HT4.out.len]; exact hlt)
        have hW8 := HT3.out.lt i W hW
        have hV8 := HT4.out.lt i V hV
        have hsub : W ||| V = V := sub_or fun x hx => by
          have h1 := (HT3.out.bit i x hlt).1 (Bt.of hW hx)
          have h2 := (HT4.out.bit i x hlt).2 h1.sg
          unfold Bt at h2
          rw [getD_at hV] at h2
          exact h2
        have HIN := Lib.hid (fun Z => inQ_true hsub (by omega) (by omega) Z)
        have HV := Lib.hid hV
        have HB := Lib.hid hb
        clear hW hsub hV hb
        go_wp2
        go_quiet ((go_at_call 19; with_reducible exact Calls.quiet_of_same (HIN.out _)))
        have hbq := below_drewNQ HB.out nq
        generalize wr.drewN nq = wq at *
        go_wp2
        go_loopw [10] (fun z wr => ∃ j : Nat, j ≤ k ∧ z = .int .i64 j ∧ Below w3.heap.size w3 wr) (fun z _ => k - (intOf z).toNat)
        case atStart => exact ⟨0, Nat.zero_le _, rfl, hbq⟩
        case round =>
          obtain ⟨j, hj, rfl, hb4⟩ := hrel
          by_cases hjt : j < k
          · obtain ⟨ad3, V1, e3, hbl3, hV1, hcV1⟩ := (hr4c.below hb4 (Nat.le_refl _)).at_ (k := i) (by rw [HT4.out.len]; exact hlt)
            injection e3 with e3
            subst e3
            rw [HV.out] at hV1
            injection hV1 with hV1
            subst hV1
            obtain ⟨ad3, U, e3, hbl4, hU, hcU⟩ := (hr4c.below hb4 (Nat.le_refl _)).at_ (k := j) (by rw [HT4.out.len]; exact hjt)
            injection e3 with e3
            subst e3
            have hU8 := HT4.out.lt j U hU
            have hand : bits .and .u32 ((V : Nat) : Int) ((U : Nat) : Int) = ((V &&& U : Nat) : Int) := u32_and_nat _ _ (by omega) (by omega)
            by_cases hz : V &&& U = 0
            · rw [hz] at hand
              have hb0 : (bits .and .u32 ((V : Nat) : Int) ((U : Nat) : Int) != 0) = false := by rw [hand]; rfl
              clear hand hz hU
              go_wp2
              go_quiet (fail)
              go_wp2
              go_round
              case rel => exact ⟨j + 1, by omega, by go_num, below_drewNQ hb4 _⟩
              case measure => (simp [intOf]; omega)
            · have hb0 : (bits .and .u32 ((V : Nat) : Int) ((U : Nat) : Int) != 0) = true := by rw [hand]; simp only [bne_iff_ne, ne_eq]; omega
              have hVU : V = U := by
                obtain ⟨x, h1, h2⟩ := and_some hz
                have g1 := (HT4.out.bit i x hlt).1 (Bt.of HV.out h1)
                have g2 := (HT4.out.bit j x hjt).1 (Bt.of hU h2)
                apply Nat.eq_of_testBit_eq
                intro y
                rw [Bool.eq_iff_iff]
                have b1 := HT4.out.bit i y hlt
                have b2 := HT4.out.bit j y hjt
                unfold Bt at b1 b2
                rw [getD_at HV.out] at b1
                rw [getD_at hU] at b2
                rw [b1, b2]
                exact ⟨fun h => g1.same g2 h, fun h => g2.same g1 h⟩
              subst hVU
              have hvv : (((V : Nat) : Int) != ((V : Nat) : Int)) = false := by simp
              clear hand hz hU
              go_wp2
              go_quiet (fail)
              go_wp2
              go_round
              case rel => exact ⟨j + 1, by omega, by go_num, below_drewNQ hb4 _⟩
              case measure => (simp [intOf]; omega)
          · go_wp2
            go_round
            case rel => exact ⟨i + 1, by omega, by go_num, hb4⟩
            case measure => (simp [intOf]; omega)
      · go_wp2
        go_ret
        exact ⟨rfl, HBW.out.trans (hb.mono hs3)⟩
  · have HW := Lib.hid (within_bad n A len cap l w hx hlen hm hc)
    have HJ := Lib.hid (fun (Z : World) (h1 : RdPz Z Z.heap.size A l) => joined_bad n A len cap l Z h1 hlen hm hc)
    obtain ⟨y, hy0⟩ : ∃ x, ckPz n l = x := ⟨_, rfl⟩
    have hne2 : (y != 0) = true := by rw [← hy0]; simp [hc]
    have HY := Lib.hid hy0
    rw [hy0] at HW HJ
    clear hc hlen hm hy0
    go_enter Try.func7, Try.ntmps7
    go_wp2_with fail
    refine HW.out.mono ?_
    rintro e w1 ⟨rfl, hb1⟩
    have hx1 := (hx.below hb1 (Nat.le_refl _)).more hb1.size
    go_wp2_with fail
    refine (HJ.out _ hx1).mono ?_
    rintro e w2 ⟨rfl, hb2⟩
    have hx2 := (hx1.below hb2 (Nat.le_refl _)).more hb2.size
    go_wp2_with fail
    refine (pointCheck_nil n A len cap l _ hx2 HLI.out HM.out).mono ?_
    rintro e w3 ⟨rfl, hb3⟩
    rw [HY.out]
    go_wp2
    go_ret
    exact ⟨ret_bool (by simp), hb1.trans ((hb2.trans (hb3.mono hb2.size)).mono hb1.size)⟩

set_option maxRecDepth 100000 in
theorem lawPointWider_lifted (os : Os) (started : os.Started) (H : Type) (enc : TypeId × Value → H) :
    ReturnsInHanded {} Try.checked os 7 .any (Rows.pointWiderSpec.pre6 enc Try.prog Try.f7 Rows.pointWiderRow.domain false) (Rows.pointWiderSpec.post enc Try.prog Try.f7 false true false false) := by
  refine returnsInHanded_of_change_sized (C := Try.checked) Try.own started (by kernel_rfl) Try.func7
    (ChangeSpec.witness6 (enc := enc) (C := Try.checked) false ⟨#[], #[.int .i64 0, .slice none 0 0], []⟩ 8 (by kernel_rfl) (by kernel_rfl) (by kernel_rfl) (by kernel_rfl)) ?_
  intro W base args ds gs before hval0 hW hcnd hsz _
  have hval : ∀ (j : Nat) t v, Try.f7.params[j]? = some t → args[j]? = some v → Value.okWide Try.prog W .any base t v := hval0
  have hW' := hW
  obtain ⟨p, q, hA0, hV, rfl, hfz, hnd⟩ := hW
  have hA : DataW.TrodAll enc Try.prog W 0 (fun _ => true) true Try.f7.params.toList args.toList ds p := hA0
  obtain ⟨hgs, _⟩ := trodVars_none hV
  rw [Try.params7] at hA hval
  obtain ⟨v0, vs0, d0, ds0, p0, q0, hargs, rfl, rfl, h0, r0⟩ := trodAll_cons hA
  obtain ⟨v1, vs1, d1, ds1, p1, q1, rfl, rfl, rfl, h1, r1⟩ := trodAll_cons r0
  obtain ⟨rfl, rfl, rfl⟩ := trodAll_nil r1
  have hargs2 : args = #[v0, v1] := Array.toList_inj.1 hargs
  subst hargs2
  obtain ⟨a0, rfl, _, _, w0⟩ := open_int Try.underlying3 (hval 0 3 v0 rfl rfl) h0
  obtain ⟨A1, c1, l1, rfl, lc1, cm1, x1, r1⟩ := open_pointsA (hval 1 22 v1 rfl rfl) h1
  have b1 := len_reach Try.underlying22 (hval 1 22 _ rfl rfl) h1 hsz (j := 1) (by rw [Try.params7]; rfl) rfl
  rw [show Try.prog.bytesOf (Try.prog.elem 22) = 24 from by kernel_rfl] at b1
  refine (lawPointWider_any a0 A1 c1 l1 _ x1 (by unfold maxLen; omega)).mono fun e W' ⟨he, hb⟩ => ?_
  subst he
  exact ⟨_, rfl, law_post Try.laidOut rfl (by kernel_rfl) Try.underlying4 ⟨rfl, rfl, rfl⟩ (by kernel_rfl) hW' hb⟩

theorem pointWider_holds : Rows.PointWiderSaid :=
  OpenClaim.holds_of_wide 7 Try.f7 rfl rfl rfl rfl rfl rfl rfl ⟨rfl, rfl, rfl, rfl, rfl⟩ rfl rfl rfl rfl rfl (by kernel_rfl) Try.func7 (show joinedFacts Try.prog 7 Try.f7 Rows.pointWiderSpec Rows.pointWiderRow = true from (by unfold joinedFacts; (repeat' (with_reducible refine and_both ?_ ?_)) <;> first | (with_reducible exact may_enter) | ((with_reducible refine make_ok ?_); rfl) | ((with_reducible refine lifts_ok ?_); rfl) | kernel_rfl))
    (of_decide_eq_true (by kernel_rfl)) (by unfold Func.isWrapper; rw [if_neg (of_decide_eq_false (by kernel_rfl))]; exact ⟨rfl, rfl⟩)
    (fun os started H enc _ => lawPointWider_lifted os started H enc)

end Go.Proofs.Ytfbnmgnkigfgpaa
