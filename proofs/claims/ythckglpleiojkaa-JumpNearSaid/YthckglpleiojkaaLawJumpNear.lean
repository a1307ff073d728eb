/-
  For any pieces: each short jump is near enough, and no long one could be short with all others as they are (X1).
-/
import Derived.Test.YthckglpleiojkaaLawJump
import Derived.Test.YthckglpleiojkaaJpLay
import Derived.Test.YthckglpleiojkaaMOpen
import Derived.BigQuiet
namespace Go.Proofs.Ythckglpleiojkaa
open Go.RowKit Go.ChangeShapes Go.WideShapes Go.ChangeAt Go.Deep
set_option linter.unusedSimpArgs false
set_option linter.unusedVariables false
set_option maxRecDepth 100000

theorem below_drewA {B : Nat} {X Y : World} (h : Below B X Y) (q : Nat) : Below B X (Y.drewN q) := ⟨h.os, h.tape, h.output, h.size, h.block⟩

set_option maxHeartbeats 8000000 in
theorem lawJumpNear_any (A : Option Addr) (cap : Nat) (l : List Pc) (w : World) (hx : RdPc w w.heap.size A l) :
    Calls Try.prog 4 #[.slice A l.length cap] w fun e w' => e = .returned (.bool true) ∧ Below w.heap.size w w' := by
  obtain ⟨len, hlen⟩ : ∃ n, l.length = n := ⟨_, rfl⟩
  rw [hlen]
  have HL := Lib.hid hlen
  have HX := Lib.hid (fun (Z : World) (hZ : Below w.heap.size w Z) => (hx.below hZ (Nat.le_refl _)).more hZ.size)
  have HCK := Lib.hid (fun (Z : World) (hZ : Below w.heap.size w Z) => refPieces_any A len cap l Z (HX.out Z hZ) hlen)
  by_cases hc : ckPc l = 0
  · have HC := Lib.hid hc
    have HK := Lib.hid (ckPc_ok hc)
    have h10 : len ≤ 10 := by rw [← hlen]; exact (ckPc_ok hc).len
    have hly := lay_ok A len cap l w hx hlen hc
    obtain ⟨n1, hn1⟩ : ∃ n1, n1 = len + 1 := ⟨_, rfl⟩
    rw [← hn1] at hly
    have HLAY := Lib.hid hly
    have HN1 := Lib.hid hn1
    have hw1 : IntKind.i64.wrap ((len : Int) + 1) = (n1 : Int) := by rw [IntKind.wrap_i64]; omega
    have hn0 : 0 < n1 := by omega
    clear hx hc hlen hly hn1
    go_enter Try.func4, Try.ntmps4
    go_wp2_with fail
    refine HLAY.out.mono ?_
    rintro e w1 ⟨⟨W, ga, gs, rfl, hfin, hoa, hos, _, _⟩, hb1⟩
    have hs1 := hb1.size
    go_wp2_with fail
    refine (HCK.out w1 hb1).mono ?_
    rintro e w2 ⟨rfl, hb2⟩
    rw [HC.out]
    have hbw2 := hb1.trans (hb2.mono hs1)
    have HFIN := Lib.hid hfin
    have hoa2 := hoa.below hb2 hoa.lt
    have hos2 := hos.below hb2 hos.lt
    have hga2 := hoa2.lt
    have hgs2 := hos2.lt
    have HOA := Lib.hid hoa2
    have HOS := Lib.hid hos2
    have hcz : w2.cell? ⟨ga, 0, none⟩ = some (.int .i64 0) := hoa2.cell (iv_at (atl_at (W := W) (i := 0) (Nat.zero_le _)))
    have HX2 := Lib.hid (HX.out w2 hbw2)
    clear hfin hoa hos hb1 hb2 hoa2 hos2
    go_wp2
    go_loopw [45] (fun i wr => ∃ k : Nat, k ≤ len ∧ i = .int .i64 k ∧ Below w2.heap.size w2 wr) (fun i _ => len - (intOf i).toNat)
    case atStart => exact ⟨0, Nat.zero_le _, rfl, Below.refl _ _⟩
    case round =>
      obtain ⟨k, hk, rfl, hb⟩ := hrel
      have hsz := hb.size
      by_cases hlt : k < len
      · obtain ⟨ad, b, j, t, rfl, hbl, hd, hc0, hc1, hc2⟩ := (HX2.out.below hb (Nat.le_refl _)).at_ (k := k) (by rw [HL.out]; exact hlt)
        have hkl : k < l.length := by rw [HL.out]; exact hlt
        have hoa := HOA.out.below hb hga2
        have hos := HOS.out.below hb hgs2
        have hcx := hoa.cell (iv_at (atl_at (W := W) (i := k) (by omega)))
        have hcx1 := hoa.cell (iv_at (atl_at (W := W) (i := k + 1) (by omega)))
        have hcs := hos.cell (iv_at (szl_at (W := W) hkl))
        have hbx := at_bd HK.out W k
        have hbx1 := at_bd HK.out W (k + 1)
        have hbz := szP_bd HK.out W k
        have hadd : atP l W (k + 1) = atP l W k + szP l W k := rfl
        have hga : ga < wr.heap.size := by omega
        have hgs : gs < wr.heap.size := by omega
        have hbl2 : (ad.add (k * 3)).block < wr.heap.size := by omega
        obtain ⟨k1, hk1⟩ : ∃ k1 : Nat, k1 = k + 1 := ⟨_, rfl⟩
        have hwk : IntKind.i64.wrap ((k : Int) + 1) = (k1 : Int) := by rw [IntKind.wrap_i64]; omega
        have hkn : k < n1 := by rw [HN1.out]; omega
        have hk1n : k1 < n1 := by rw [HN1.out]; omega
        have HK1 := Lib.hid hk1
        cases j with
        | false =>
          have hz := szP_byt (W := W) hd rfl
          simp only at hz
          rw [hz] at hcs hbz hadd
          obtain ⟨x, hxe⟩ : ∃ x, atP l W k = x := ⟨_, rfl⟩
          obtain ⟨y, hye⟩ : ∃ y, atP l W (k + 1) = y := ⟨_, rfl⟩
          rw [hye] at hcx1 hadd hbx1
          rw [hxe] at hcx hadd hbx
          rw [← hk1] at hcx1
          have hwr : IntKind.i64.wrap (x + b) = y := by rw [IntKind.wrap_i64]; omega
          have hyy : (y != y) = false := by simp
          have hbb : (b != b) = false := by simp
          clear hd hkl hoa hos hbx hbx1 hbz hadd hk1 hz hxe hye
          go_wp2
          go_quiet (fail)
          go_wp2
          go_round
          case rel => exact ⟨k + 1, by omega, (by have hk9 := HK1.out; subst hk9; first | rfl | go_num), below_drewA (by go_grown) _⟩
          case measure => have hk9 := HK1.out; (simp [intOf]; omega)
        | true =>
          obtain ⟨tn, ht, hj, htl⟩ := jmpAt_of HK.out hd rfl
          simp only at ht
          subst ht
          have hz := szP_jmp (W := W) hd rfl
          have hct := hoa.cell (iv_at (atl_at (W := W) (i := tn) htl))
          have hbt := at_bd HK.out W tn
          have hok := HFIN.out.ok k tn hj
          have hnar := HFIN.out.nar k tn hj
          have hfar : farP l W k tn = atP l W tn - atP l W (k + 1) := rfl
          have htn : tn < n1 := by rw [HN1.out]; rw [HL.out] at htl; omega
          rw [HL.out] at htl
          obtain ⟨v, hve⟩ : ∃ v, atP l W tn = v := ⟨_, rfl⟩
          obtain ⟨d, hde⟩ : ∃ d, farP l W k tn = d := ⟨_, rfl⟩
          rw [hve] at hct hbt hfar
          rw [hde] at hok hnar hfar
          obtain ⟨x, hxe⟩ : ∃ x, atP l W k = x := ⟨_, rfl⟩
          obtain ⟨y, hye⟩ : ∃ y, atP l W (k + 1) = y := ⟨_, rfl⟩
          rw [hye] at hcx1 hadd hbx1 hfar
          rw [hxe] at hcx hadd hbx
          rw [← hk1] at hcx1
          have hwd : IntKind.i64.wrap (v - y) = d := by rw [IntKind.wrap_i64]; omega
          have hdb : -3000 ≤ d ∧ d ≤ 3000 := by omega
          have hyy : (y != y) = false := by simp
          obtain ⟨db1, db2⟩ := hdb
          cases hbit : W.testBit k with
          | false =>
            obtain ⟨d1, d2⟩ := hok hbit
            rw [hbit, if_neg (by simp)] at hz
            rw [hz] at hcs hbz hadd
            have hwr : IntKind.i64.wrap (x + 2) = y := by rw [IntKind.wrap_i64]; omega
            have d3 : ¬ (50 : Int) < d := by omega
            have d4 : ¬ d < (-50 : Int) := by omega
            clear hd hkl hoa hos hbx hbx1 hbz hadd hk1 hz hxe hye hve hde hok hnar hfar hbt hj htl hbit
            go_wp2
            go_quiet (fail)
            go_wp2
            go_quiet (fail)
            go_wp2
            go_round
            case rel => exact ⟨k + 1, by omega, (by have hk9 := HK1.out; subst hk9; first | rfl | go_num), below_drewA (by go_grown) _⟩
            case measure => have hk9 := HK1.out; (simp [intOf]; omega)
          | true =>
            have hn := hnar hbit
            rw [hbit, if_pos rfl] at hz
            rw [hz] at hcs hbz hadd
            have hwr : IntKind.i64.wrap (x + 4) = y := by rw [IntKind.wrap_i64]; omega
            clear hd hkl hoa hos hbx hbx1 hbz hadd hk1 hz hxe hye hve hde hok hnar hfar hbt hj htl hbit
            rcases hn with hn | hn
            · have d3 : ¬ d < 0 := by omega
              have d4 : ¬ d ≤ 50 := by omega
              go_wp2
              go_quiet (fail)
              go_wp2
              go_quiet (fail)
              go_wp2
              go_round
              case rel => exact ⟨k + 1, by omega, (by have hk9 := HK1.out; subst hk9; first | rfl | go_num), below_drewA (by go_grown) _⟩
              case measure => have hk9 := HK1.out; (simp [intOf]; omega)
            · have d3 : d < 0 := by omega
              obtain ⟨d2, hd2⟩ : ∃ d2, d2 = d + 2 := ⟨_, rfl⟩
              have hw2 : IntKind.i64.wrap (d + 2) = d2 := by rw [IntKind.wrap_i64]; omega
              have d4 : d2 ≤ 50 := by omega
              have d5 : ¬ (-50 : Int) ≤ d2 := by omega
              clear hd2
              go_wp2
              go_quiet (fail)
              go_wp2
              go_quiet (fail)
              go_wp2
              go_round
              case rel => exact ⟨k + 1, by omega, (by have hk9 := HK1.out; subst hk9; first | rfl | go_num), below_drewA (by go_grown) _⟩
              case measure => have hk9 := HK1.out; (simp [intOf]; omega)
      · have HB := Lib.hid hb
        go_wp2
        go_ret
        exact ⟨rfl, hbw2.trans (HB.out.mono hbw2.size)⟩
  · have HLAY := Lib.hid (lay_no A len cap l w hx hlen hc)
    have hne : (ckPc l != 0) = true := by simp [hc]
    clear hx hc hlen
    go_enter Try.func4, Try.ntmps4
    go_wp2_with fail
    refine HLAY.out.mono ?_
    rintro e w1 ⟨rfl, hb1⟩
    have hs1 := hb1.size
    go_wp2_with fail
    refine (HCK.out w1 hb1).mono ?_
    rintro e w2 ⟨rfl, hb2⟩
    go_wp2
    go_ret
    exact ⟨ret_bool (by simp [hne]), hb1.trans (hb2.mono hs1)⟩

set_option maxRecDepth 100000 in
theorem lawJumpNear_lifted (os : Os) (started : os.Started) (H : Type) (enc : TypeId × Value → H) :
    ReturnsInHanded {} Try.checked os 4 .any (Rows.jumpNearSpec.pre6 enc Try.prog Try.f4 Rows.jumpNearRow.domain false) (Rows.jumpNearSpec.post enc Try.prog Try.f4 false true false false) := by
  refine returnsInHanded_of_change_sized (C := Try.checked) Try.own started (by kernel_rfl) Try.func4
    (ChangeSpec.witness6 (enc := enc) (C := Try.checked) false ⟨#[], #[.slice none 0 0], []⟩ 8 (by kernel_rfl) (by kernel_rfl) (by kernel_rfl) (by kernel_rfl)) ?_
  intro W base args ds gs before hval0 hW hcnd hsz _
  have hval : ∀ (j : Nat) t v, Try.f4.params[j]? = some t → args[j]? = some v → Value.okWide Try.prog W .any base t v := hval0
  have hW' := hW
  obtain ⟨p, q, hA0, hV, rfl, hfz, hnd⟩ := hW
  have hA : DataW.TrodAll enc Try.prog W 0 (fun _ => true) true Try.f4.params.toList args.toList ds p := hA0
  obtain ⟨hgs, _⟩ := trodVars_none hV
  rw [Try.params4] at hA hval
  obtain ⟨v0, vs0, d0, ds0, p0, q0, hargs, rfl, rfl, h0, r0⟩ := trodAll_cons hA
  obtain ⟨rfl, rfl, rfl⟩ := trodAll_nil r0
  have hargs2 : args = #[v0] := Array.toList_inj.1 hargs
  subst hargs2
  obtain ⟨A0, c0, l0, rfl, lc0, cm0, x0, r0⟩ := open_piecesA (hval 0 22 v0 rfl rfl) h0
  have b0 := len_reach Try.underlying22 (hval 0 22 _ rfl rfl) h0 hsz (j := 0) (by rw [Try.params4]; rfl) rfl
  rw [show Try.prog.bytesOf (Try.prog.elem 22) = 24 from by kernel_rfl] at b0
  refine (lawJumpNear_any A0 c0 l0 _ x0).mono fun e W' ⟨he, hb⟩ => ?_
  subst he
  exact ⟨_, rfl, law_post Try.laidOut rfl (by kernel_rfl) Try.underlying4 ⟨rfl, rfl, rfl⟩ (by kernel_rfl) hW' hb⟩

theorem jumpNear_holds : Rows.JumpNearSaid :=
  OpenClaim.holds_of_wide 4 Try.f4 rfl rfl rfl rfl rfl rfl rfl ⟨rfl, rfl, rfl, rfl, rfl⟩ rfl rfl rfl rfl rfl (by kernel_rfl) Try.func4 (show joinedFacts Try.prog 4 Try.f4 Rows.jumpNearSpec Rows.jumpNearRow = true from (by unfold joinedFacts; (repeat' (with_reducible refine and_both ?_ ?_)) <;> first | (with_reducible exact may_enter) | ((with_reducible refine make_ok ?_); rfl) | ((with_reducible refine lifts_ok ?_); rfl) | kernel_rfl))
    (of_decide_eq_true (by kernel_rfl)) (by unfold Func.isWrapper; rw [if_neg (of_decide_eq_false (by kernel_rfl))]; exact ⟨rfl, rfl⟩)
    (fun os started H enc _ => lawJumpNear_lifted os started H enc)

end Go.Proofs.Ythckglpleiojkaa
