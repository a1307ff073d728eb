/-
  A run goes along the ways of its program, from block 0 to one in which it stops (J2): codemasonkeep.BlockPath returns true and leaves its arguments alone. No condition.
-/
import Derived.Test.YtfbpalgeajgbhaaLawBlock
import Derived.Test.YtfbpalgeajgbhaaBlock
import Derived.IntWalk
namespace Go.Proofs.Ytfbpalgeajgbhaa
open Go.RowKit Go.ChangeShapes Go.WideShapes Go.ChangeAt Go.Deep
set_option linter.unusedSimpArgs false
set_option linter.unusedVariables false
set_option maxRecDepth 100000

theorem addr_zero (a : Addr) : a.add 0 = a := by unfold Addr.add; simp

theorem addr_succ (a : Addr) (q : Nat) : a.add (q + 1) = ⟨a.block, a.off + (q + 1), none⟩ := by unfold Addr.add; simp

theorem nxP_at {p : List Bk} {k : Nat} {b : Bk} (h : p[k]? = some b) : (nxP p)[k]? = some (nxB b) := by simp [nxP, h]

set_option maxHeartbeats 4000000 in
theorem lawBlockPath_any (K : BlockIs) (vars : Int) (A HA : Option Addr) (cap hcap : Nat) (p : List Bk) (hv : List Int) (w : World) (hx : RdP w w.heap.size A p) (hh : RdI w w.heap.size HA hv) (hm : p.length ≤ maxLen) (hin : ∀ b ∈ p, InBk b) (hhm : hv.length ≤ maxLen) :
    Calls Try.prog 8 #[.int .i64 vars, .slice A p.length cap, .slice HA hv.length hcap] w fun e w' => e = .returned (.bool true) ∧ Below w.heap.size w w' := by
  have HIN := Lib.hid hin
  have HM := Lib.hid hm
  have HHM := Lib.hid hhm
  clear hin hm hhm
  by_cases hc : ckGo vars p hv = 0
  · obtain ⟨hc1, hc2⟩ := ckGo_ok hc
    obtain ⟨n, rfl, hn1, hn6⟩ := ckProg_nat hc1
    obtain ⟨_, _, b3, b4, _, _⟩ := ckProg_bd hc1
    have hvo := valsOk_of hc2
    have HC := Lib.hid hc
    have HC1 := Lib.hid hc1
    have HVO := Lib.hid hvo
    have hlen := hvo.1
    rw [hlen]
    have HLEN := Lib.hid hlen
    have hnm : n ≤ maxLen := by unfold maxLen; omega
    obtain ⟨len, hpl⟩ : ∃ len, p.length = len := ⟨_, rfl⟩
    have HPL := Lib.hid hpl
    rw [hpl] at b3 b4 HM ⊢
    have hgl : Hid ((nxP p).length = len) := Lib.hid (by rw [nxP_len, hpl])
    clear hc hc1 hc2 hvo hlen hpl
    go_enter Try.func8, Try.ntmps8
    go_wp2_with fail
    refine (K.run n A HA _ cap hcap p hv _ hx hh HPL.out HC1.out HVO.out).mono ?_
    rintro e w1 ⟨hrt, hb1⟩
    have hx1 := (hx.below hb1 (Nat.le_refl _)).more hb1.size
    have hh1 := (hh.below hb1 (Nat.le_refl _)).more hb1.size
    have hs1 := hb1.size
    rcases hrt with ⟨hr, A1, A2, c1, c2, rfl⟩ | ⟨x, l, A1, A2, c1, c2, hr, rfl, hr1, hr2⟩
    · clear hr
      go_wp2_with fail
      refine (K.way n A _ cap p _ hx1 HPL.out HC1.out).mono ?_
      rintro e w2 ⟨A3, c3, rfl, hr3, hb2⟩
      have hb12 := hb1.trans (hb2.mono hs1)
      have hx2 := (hx.below hb12 (Nat.le_refl _)).more hb12.size
      have hh2 := (hh.below hb12 (Nat.le_refl _)).more hb12.size
      go_wp2_with fail
      refine (runs_any n A HA _ cap n hcap p hv _ hx2 hh2 HPL.out HM.out HIN.out HLEN.out hnm).mono ?_
      rintro e w3 ⟨rfl, hb3⟩
      rw [decide_eq_true HC.out]
      go_wp2
      go_ret
      exact ⟨ret_bool (by simp), hb12.trans (hb3.mono hb12.size)⟩
    · obtain ⟨r, hlr, hrw, hll, hxo⟩ := goP_way HC1.out 200 0 hv x l (by rw [HPL.out]; omega) HVO.out hr
      obtain ⟨m, hlm⟩ : ∃ m, l.length = m + 1 := ⟨r.length, by rw [hlr]; rfl⟩
      have HL0 : Hid (l[0]? = some 0) := Lib.hid (by rw [hlr]; rfl)
      rw [hlm] at hll ⊢
      have HLM := Lib.hid hlm
      have HRW := Lib.hid hrw
      have HXO := Lib.hid hxo
      rw [hxo.1]
      have hxh : (ckHave n x == 0) = true := by rw [ckHave_vals hxo]; rfl
      have HXH := Lib.hid hxh
      have HXL := Lib.hid hxo.1
      clear hr hlr hrw hxo hlm hxh
      go_wp2_with fail
      refine (K.way n A _ cap p _ hx1 HPL.out HC1.out).mono ?_
      rintro e w2 ⟨A3, c3, rfl, hr3, hb2⟩
      have hb12 := hb1.trans (hb2.mono hs1)
      have hx2 := (hx.below hb12 (Nat.le_refl _)).more hb12.size
      have hh2 := (hh.below hb12 (Nat.le_refl _)).more hb12.size
      have hr12 := (hr1.below hb2 (Nat.le_refl _)).more hb2.size
      have hr22 := (hr2.below hb2 (Nat.le_refl _)).more hb2.size
      go_wp2_with fail
      refine (runs_any n A HA _ cap n hcap p hv _ hx2 hh2 HPL.out HM.out HIN.out HLEN.out hnm).mono ?_
      rintro e w3 ⟨rfl, hb3⟩
      rw [decide_eq_true HC.out]
      have hb13 := hb12.trans (hb3.mono hb12.size)
      have hr13 := (hr12.below hb3 (Nat.le_refl _)).more hb3.size
      have hr23 := (hr22.below hb3 (Nat.le_refl _)).more hb3.size
      have hr33 := (hr3.below hb3 (Nat.le_refl _)).more hb3.size
      obtain ⟨ap, x0, rfl, hbl0, hd0, hcl0⟩ := hr23.at_ (k := 0) (by simp [ni, HLM.out])
      rw [ni_at HL0.out] at hd0
      injection hd0 with hd0
      subst hd0
      rw [addr_zero] at hcl0
      have hs3 := hb13.size
      have hm0 : ((m : Int) + 1 == 0) = false := by simp; omega
      clear hr1 hr2 hr3 hr12 hr22 hbl0
      go_wp2_with (go_at_call 17; (with_reducible refine (given_any n A1 n c1 x _ _ hr13 HXL.out hnm).mono ?_); rw [HXH.out]; rintro e w4 ⟨rfl, rfl⟩)
      go_loopw [75] (fun z wr => ∃ k : Nat, k ≤ m + 1 ∧ z = .int .i64 k ∧ Below w3.heap.size w3 wr) (fun z _ => m + 1 - (intOf z).toNat)
      case atStart => exact ⟨0, Nat.zero_le _, rfl, Below.refl _ _⟩
      case round =>
        obtain ⟨k, hk, rfl, hb4⟩ := hrel
        have hs4 := hb4.size
        by_cases hlt : k < m + 1
        · obtain ⟨i, hi⟩ : ∃ i, l[k]? = some i := ⟨_, List.getElem?_eq_getElem (by rw [HLM.out]; exact hlt)⟩
          have hil := HRW.out.lt k i hi
          rw [HPL.out] at hil
          obtain ⟨ap', x1, hap, hbl1, hd1, hcl1⟩ := (hr23.below hb4 (Nat.le_refl _)).at_ (k := k) (by simp [ni, HLM.out]; omega)
          injection hap with hap
          subst hap
          rw [ni_at hi] at hd1
          injection hd1 with hd1
          subst hd1
          have hins : decide (0 ≤ (i : Int) ∧ (i : Int) < (len : Int)) = true := by simp <;> omega
          have HINS := Lib.hid hins
          rcases Nat.eq_zero_or_pos k with hk0 | hk0
          · subst hk0
            rw [addr_zero] at hcl1
            clear hi hins
            go_wp2_with (go_at_call 27; (with_reducible refine (inside1_any _ (i : Int) _ _ _ ?_).mono ?_); (· (exact cell_new (by simp) rfl)); rw [HINS.out]; rintro e w5 ⟨rfl, rfl⟩)
            go_round
            case rel => exact ⟨0 + 1, by omega, by go_num, by go_grown⟩
            case measure => simp [intOf]
          · obtain ⟨q, rfl⟩ : ∃ q, k = q + 1 := ⟨k - 1, by omega⟩
            rw [addr_succ] at hcl1
            have k1 : IntKind.i64.wrap ((q : Int) + 1 - 1) = (q : Int) := by rw [IntWalk.i64_in _ ⟨by omega, by omega⟩]; omega
            have k2 : IntKind.i64.wrap (q : Int) = (q : Int) := IntWalk.i64_in _ ⟨by omega, by omega⟩
            obtain ⟨j, hj⟩ : ∃ j, l[q]? = some j := ⟨_, List.getElem?_eq_getElem (by rw [HLM.out]; omega)⟩
            have hjl := HRW.out.lt q j hj
            rw [HPL.out] at hjl
            obtain ⟨b, hbp, hbm⟩ := HRW.out.next q j i hj hi
            obtain ⟨ap2, x2, hap2, hbl2, hd2, hcl2⟩ := (hr23.below hb4 (Nat.le_refl _)).at_ (k := q) (by simp [ni, HLM.out]; omega)
            injection hap2 with hap2
            subst hap2
            rw [ni_at hj] at hd2
            injection hd2 with hd2
            subst hd2
            obtain ⟨an, row, Ar, cr, rfl, hbl3, hd3, hcl3, hrow3⟩ := (hr33.below hb4 (Nat.le_refl _)).at_ (k := j) (by rw [hgl.out]; exact hjl)
            rw [nxP_at hbp] at hd3
            injection hd3 with hd3
            subst hd3
            have hhas : hasB (nxB b) (i : Int) = true := hasB_iff.2 hbm
            have HHAS := Lib.hid hhas
            have hnl := nxB_len b
            obtain ⟨rl, hrl⟩ : ∃ rl, (nxB b).length = rl := ⟨_, rfl⟩
            rw [hrl] at hcl3 hnl
            have HRL := Lib.hid hrl
            have hrlm : rl ≤ maxLen := by unfold maxLen; omega
            have hrow4 : RdI wr wr.heap.size Ar (nxB b) := hrow3.more hs4
            have hq2 : (ap.add q).block < wr.heap.size := by omega
            have hq3 : (an.add j).block < wr.heap.size := by omega
            clear hi hins hj hbp hbm hhas hrl
            go_wp2_with (first
              | (go_at_call 27; (with_reducible refine (inside1_any _ (i : Int) _ _ _ ?_).mono ?_); (· (exact cell_new (by simp) rfl)); rw [HINS.out]; rintro e w5 ⟨rfl, rfl⟩)
              | (go_at_call 28; (with_reducible refine (has_any _ Ar rl cr (nxB b) _ _ (hrow4.below (by go_grown) (Nat.le_refl _)) HRL.out hrlm).mono ?_); rw [HHAS.out]; rintro e w5 ⟨rfl, rfl⟩))
            go_round
            case rel => exact ⟨q + 1 + 1, by omega, by go_num, by go_grown⟩
            case measure => (simp [intOf]; omega)
        · obtain ⟨i, b, hi, hbp, hbe⟩ := HRW.out.last
          rw [HLM.out, Nat.add_sub_cancel] at hi
          have hil := HRW.out.lt m i hi
          rw [HPL.out] at hil
          obtain ⟨ap', x1, hap, hbl1, hd1, hcl1⟩ := (hr23.below hb4 (Nat.le_refl _)).at_ (k := m) (by simp [ni, HLM.out])
          injection hap with hap
          subst hap
          rw [ni_at hi] at hd1
          injection hd1 with hd1
          subst hd1
          obtain ⟨an, row, Ar, cr, rfl, hbl3, hd3, hcl3, hrow3⟩ := (hr33.below hb4 (Nat.le_refl _)).at_ (k := i) (by rw [hgl.out]; exact hil)
          rw [nxP_at hbp] at hd3
          injection hd3 with hd3
          subst hd3
          have hrl : (nxB b).length = 0 := by rw [hbe]; rfl
          rw [hrl] at hcl3
          clear hi hbp hbe hrl
          go_wp2
          go_ret
          exact ⟨ret_bool (by simp), hb13.trans (hb4.mono hs3)⟩
  · have HC := Lib.hid hc
    have hne : (ckGo vars p hv != 0) = true := by simp [hc]
    clear hc
    go_enter Try.func8, Try.ntmps8
    go_wp2_with fail
    refine (K.runBad vars A HA _ cap _ hcap p hv _ hx hh rfl HM.out HIN.out rfl HHM.out HC.out).mono ?_
    rintro e w1 ⟨A1, A2, c1, c2, rfl, hb1⟩
    have hx1 := (hx.below hb1 (Nat.le_refl _)).more hb1.size
    by_cases h1 : ckProg vars p = 0
    · obtain ⟨n, rfl, hn1, hn6⟩ := ckProg_nat h1
      have H1 := Lib.hid h1
      clear h1
      go_wp2_with fail
      refine (K.way n A _ cap p _ hx1 rfl H1.out).mono ?_
      rintro e w2 ⟨A3, c3, rfl, hr3, hb2⟩
      have hb12 := hb1.trans (hb2.mono hb1.size)
      have hx2 := (hx.below hb12 (Nat.le_refl _)).more hb12.size
      have hh2 := (hh.below hb12 (Nat.le_refl _)).more hb12.size
      go_wp2_with fail
      refine (runs_any n A HA _ cap _ hcap p hv _ hx2 hh2 rfl HM.out HIN.out rfl HHM.out).mono ?_
      rintro e w3 ⟨rfl, hb3⟩
      rw [decide_eq_false HC.out]
      go_wp2
      go_ret
      exact ⟨ret_bool (by simp), hb12.trans (hb3.mono hb12.size)⟩
    · have H1 := Lib.hid h1
      clear h1
      go_wp2_with fail
      refine (K.wayBad vars A _ cap p _ hx1 rfl HM.out HIN.out H1.out).mono ?_
      rintro e w2 ⟨A3, c3, rfl, hb2⟩
      have hb12 := hb1.trans (hb2.mono hb1.size)
      have hx2 := (hx.below hb12 (Nat.le_refl _)).more hb12.size
      have hh2 := (hh.below hb12 (Nat.le_refl _)).more hb12.size
      go_wp2_with fail
      refine (runs_any vars A HA _ cap _ hcap p hv _ hx2 hh2 rfl HM.out HIN.out rfl HHM.out).mono ?_
      rintro e w3 ⟨rfl, hb3⟩
      rw [decide_eq_false HC.out]
      go_wp2
      go_ret
      exact ⟨ret_bool (by simp), hb12.trans (hb3.mono hb12.size)⟩

set_option maxRecDepth 100000 in
theorem lawBlockPath_lifted (os : Os) (started : os.Started) (H : Type) (enc : TypeId × Value → H) :
    ReturnsInHanded {} Try.checked os 8 .any (Rows.blockPathSpec.pre6 enc Try.prog Try.f8 Rows.blockPathRow.domain false) (Rows.blockPathSpec.post enc Try.prog Try.f8 false true false false) := by
  refine returnsInHanded_of_change_sized (C := Try.checked) Try.own started (by kernel_rfl) Try.func8
    (ChangeSpec.witness6 (enc := enc) (C := Try.checked) false ⟨#[], #[.int .i64 0, .slice none 0 0, .slice none 0 0], []⟩ 8 (by kernel_rfl) (by kernel_rfl) (by kernel_rfl) (by kernel_rfl)) ?_
  intro W base args ds gs before hval0 hW hcnd hsz _
  have hval : ∀ (j : Nat) t v, Try.f8.params[j]? = some t → args[j]? = some v → Value.okWide Try.prog W .any base t v := hval0
  have hW' := hW
  obtain ⟨p, q, hA0, hV, rfl, hfz, hnd⟩ := hW
  have hA : DataW.TrodAll enc Try.prog W 0 (fun _ => true) true Try.f8.params.toList args.toList ds p := hA0
  obtain ⟨hgs, _⟩ := trodVars_none hV
  rw [Try.params8] at hA hval
  obtain ⟨v0, vs0, d0, ds0, p0, q0, hargs, rfl, rfl, h0, r0⟩ := trodAll_cons hA
  obtain ⟨v1, vs1, d1, ds1, p1, q1, rfl, rfl, rfl, h1, r1⟩ := trodAll_cons r0
  obtain ⟨v2, vs2, d2, ds2, p2, q2, rfl, rfl, rfl, h2, r2⟩ := trodAll_cons r1
  obtain ⟨rfl, rfl, rfl⟩ := trodAll_nil r2
  have hargs2 : args = #[v0, v1, v2] := Array.toList_inj.1 hargs
  subst hargs2
  obtain ⟨a0, rfl, _, _, w0⟩ := open_int Try.underlying3 (hval 0 3 v0 rfl rfl) h0
  obtain ⟨A1, c1, l1, rfl, lc1, cm1, x1, g1⟩ := open_progA (reach_at hsz (j := 1) (t := 39) (by rw [Try.params8]; rfl) rfl) (hval 1 39 v1 rfl rfl) h1
  have b1 := len_reach Try.underlying39 (hval 1 39 _ rfl rfl) h1 hsz (j := 1) (by rw [Try.params8]; rfl) rfl
  rw [show Try.prog.bytesOf (Try.prog.elem 39) = 48 from by kernel_rfl] at b1
  obtain ⟨A2, c2, l2, rfl, lc2, cm2, x2, r2⟩ := open_intsA (hval 2 23 v2 rfl rfl) h2
  have b2 := len_reach Try.underlying23 (hval 2 23 _ rfl rfl) h2 hsz (j := 2) (by rw [Try.params8]; rfl) rfl
  rw [show Try.prog.bytesOf (Try.prog.elem 23) = 8 from by kernel_rfl] at b2
  refine (lawBlockPath_any blockIs a0 A1 A2 c1 c2 l1 l2 _ x1 x2 (by omega) g1 (by omega)).mono fun e W' ⟨he, hb⟩ => ?_
  subst he
  exact ⟨_, rfl, law_post Try.laidOut rfl (by kernel_rfl) Try.underlying4 ⟨rfl, rfl, rfl⟩ (by kernel_rfl) hW' hb⟩

theorem blockPath_holds : Rows.BlockPathSaid :=
  OpenClaim.holds_of_wide 8 Try.f8 rfl rfl rfl rfl rfl rfl rfl ⟨rfl, rfl, rfl, rfl, rfl⟩ rfl rfl rfl rfl rfl (by kernel_rfl) Try.func8 (show joinedFacts Try.prog 8 Try.f8 Rows.blockPathSpec Rows.blockPathRow = true from (by unfold joinedFacts; (repeat' (with_reducible refine and_both ?_ ?_)) <;> first | (with_reducible exact may_enter) | ((with_reducible refine make_ok ?_); rfl) | ((with_reducible refine lifts_ok ?_); rfl) | kernel_rfl))
    (of_decide_eq_true (by kernel_rfl)) (by unfold Func.isWrapper; rw [if_neg (of_decide_eq_false (by kernel_rfl))]; exact ⟨rfl, rfl⟩)
    (fun os started H enc _ => lawBlockPath_lifted os started H enc)

end Go.Proofs.Ytfbpalgeajgbhaa
