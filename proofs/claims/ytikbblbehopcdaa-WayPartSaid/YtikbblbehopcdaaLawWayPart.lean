/-
  Parts: each is in its own one, who is in another's has the same one, turned round they are the same: codemasonkeep.WayPart returns true and leaves its arguments alone. No condition.
-/
import Derived.Test.YtikbblbehopcdaaLawWay
import Derived.Test.YtikbblbehopcdaaLawWayParts
import Derived.Deep.QuietTactic
import Derived.BigQuiet
import Derived.BigRegion
namespace Go.Proofs.Ytikbblbehopcdaa
open Go.RowKit Go.ChangeShapes Go.WideShapes Go.ChangeAt Go.Deep
set_option linter.unusedSimpArgs false
set_option linter.unusedVariables false
set_option maxRecDepth 100000

theorem bit_is {W : Nat} {i : Int} {b : Bool} (h : bitB W i = b) (w : World) (hW : W < 4294967296) :
    Calls Try.prog 30 #[.int .u32 (W : Nat), .int .i64 i] w fun e w' => e = .returned (.bool b) ∧ w' = w := (bit_any W i w hW).mono fun e w' ⟨h1, h2⟩ => ⟨by rw [h1, h], h2.symm⟩

set_option maxHeartbeats 4000000 in
theorem lawWayPart_any (K : WayIs) (A : Option Addr) (cap : Nat) (nx : List (List Int)) (w : World) (hx : RdG w w.heap.size A nx) (hm : nx.length ≤ maxLen) :
    Calls Try.prog 9 #[.slice A nx.length cap] w fun e w' => e = .returned (.bool true) ∧ Below w.heap.size w w' := by
  have HM := Lib.hid hm
  unfold maxLen at hm
  by_cases hc : ckWay nx = 0
  · have HC := Lib.hid hc
    obtain ⟨hb1', hb2', _⟩ := ckWay_bd hc
    obtain ⟨len, hlen⟩ : ∃ len, nx.length = len := ⟨_, rfl⟩
    have HLEN := Lib.hid hlen
    have HP2 : Hid (2 ^ nx.length ≤ 2 ^ 8) := Lib.hid (Nat.pow_le_pow_right (by omega) hb2')
    rw [hlen] at hb1' hb2' hm ⊢
    have HML : Hid (len ≤ maxLen) := Lib.hid (by unfold maxLen; omega)
    clear hc hlen
    go_enter Try.func9, Try.ntmps9
    go_wp2_with fail
    refine (K.parts A _ cap nx _ hx HLEN.out HC.out).mono ?_
    rintro e w1 ⟨ws, A1, c1, hpt, rfl, hr1, hb1⟩
    have hx1 := (hx.below hb1 (Nat.le_refl _)).more hb1.size
    have HPT := Lib.hid hpt
    have HWL := Lib.hid (hpt.len.trans HLEN.out)
    clear hpt
    go_wp2_with fail
    refine (may_any A _ cap nx _ hx1 HLEN.out HML.out).mono ?_
    rw [decide_eq_true HC.out]
    rintro e w2 ⟨rfl, rfl⟩
    go_wp2
    go_loopw [5] (fun z wr => ∃ i : Nat, i ≤ len ∧ z = .int .i64 i ∧ Below w1.heap.size w1 wr) (fun z _ => len - (intOf z).toNat)
    case atStart => exact ⟨0, Nat.zero_le _, rfl, Below.refl _ _⟩
    case round =>
      obtain ⟨i, hi, rfl, hbr⟩ := hrel
      have hszr := hbr.size
      by_cases hlt : i < len
      · obtain ⟨wo, rfl⟩ : ∃ wo : World, wo = wr := ⟨_, rfl⟩
        obtain ⟨a1, W, rfl, hbl1, hW, hcx⟩ := (hr1.below hbr (Nat.le_refl _)).at_ (k := i) (by rw [HWL.out]; exact hlt)
        have hW8 : W < 2 ^ 8 := Nat.lt_of_lt_of_le (HPT.out.lt i W hW) HP2.out
        have hme : bitB W (i : Int) = true := by rw [bitB_nat hW8]; exact HPT.out.me hW
        have HME := Lib.hid hme
        have HW8 := Lib.hid hW8
        have HW := Lib.hid hW
        have hW32 : W < 4294967296 := by omega
        clear hW hW8 hme
        go_wp2_with fail
        refine (bit_any W _ _ hW32).mono ?_
        rw [HME.out]
        rintro e w5 ⟨rfl, rfl⟩
        go_wp2
        go_loopw [6] (fun z wi => ∃ j : Nat, j ≤ len ∧ z = .int .i64 j ∧ Below w1.heap.size w1 wi) (fun z _ => len - (intOf z).toNat)
        case atStart => exact ⟨0, Nat.zero_le _, rfl, hbr⟩
        case round =>
          obtain ⟨j, hj, rfl, hbi⟩ := hrel
          have hszi := hbi.size
          by_cases hjt : j < len
          · have hcx4 := (hbi.cell (p := a1.add i) hbl1).trans ((hbr.cell (p := a1.add i) hbl1).symm.trans hcx)
            obtain ⟨a1', V, hA', hbl2, hV, hcv⟩ := (hr1.below hbi (Nat.le_refl _)).at_ (k := j) (by rw [HWL.out]; exact hjt)
            injection hA' with hA'
            subst hA'
            have hbb : bitB W (j : Int) = true → W = V := fun h => HPT.out.same HW.out hV (by rw [← bitB_nat HW8.out]; exact h)
            have HBB := Lib.hid hbb
            clear hbb hV
            cases hbit : bitB W (j : Int) with
            | true =>
              have hWV := HBB.out hbit
              subst hWV
              have HBIT := Lib.hid hbit
              clear hbit
              go_wp2
              go_quiet ((go_at_call 30; exact Calls.quiet_of_same (bit_is HBIT.out _ hW32)))
              go_wp2
              go_round
              case rel => exact ⟨j + 1, by omega, by go_num, ⟨hbi.os, hbi.tape, hbi.output, hbi.size, hbi.block⟩⟩
              case measure => (simp [intOf]; omega)
            | false =>
              have HBIT := Lib.hid hbit
              clear hbit
              go_wp2
              go_quiet ((go_at_call 30; exact Calls.quiet_of_same (bit_is HBIT.out _ hW32)))
              go_wp2
              go_round
              case rel => exact ⟨j + 1, by omega, by go_num, ⟨hbi.os, hbi.tape, hbi.output, hbi.size, hbi.block⟩⟩
              case measure => (simp [intOf]; omega)
          · go_wp2
            go_round
            case rel => exact ⟨i + 1, by omega, by go_num, hbi⟩
            case measure => (simp [intOf]; omega)
      · have hil : i = len := by omega
        subst hil
        have hbw := hb1.trans (hbr.mono hb1.size)
        have hxr := (hx1.below hbr (Nat.le_refl _)).more hbr.size
        go_wp2_with fail
        refine (refTurned_any A _ cap nx _ hxr HLEN.out HC.out).mono ?_
        rintro e w5 ⟨A5, c5, rfl, hr5, hb5⟩
        have hb5w := hbw.trans (hb5.mono hbw.size)
        have HTL := Lib.hid ((trG_len nx).trans HLEN.out)
        go_wp2_with fail
        refine (may_any A5 _ c5 (trG nx) _ hr5 HTL.out HML.out).mono ?_
        by_cases hct : ckWay (trG nx) = 0
        · have HCT := Lib.hid hct
          rw [decide_eq_true hct]
          clear hct
          rintro e w6 ⟨rfl, rfl⟩
          go_wp2_with fail
          refine (K.parts A5 _ c5 (trG nx) _ hr5 HTL.out HCT.out).mono ?_
          rintro e w6 ⟨ws', A6, c6, hpt', rfl, hr6, hb6⟩
          have hws := HPT.out.one (hpt'.turn HC.out)
          subst hws
          have hr16 := ((hr1.below (hbr.trans (hb5.mono hszr)) (Nat.le_refl _)).below (hb6.mono (Nat.le_trans hszr hb5.size)) (Nat.le_refl _)).more (Nat.le_trans (Nat.le_trans hszr hb5.size) hb6.size)
          have hb6w := hb5w.trans (hb6.mono hb5w.size)
          clear hpt'
          go_wp2_with fail
          refine (words_same A1 A6 _ c1 c6 ws _ hr16 hr6 HWL.out HML.out).mono ?_
          rintro e w7 ⟨rfl, hb7⟩
          go_wp2
          go_ret
          exact ⟨ret_bool (by simp), hb6w.trans (hb7.mono hb6w.size)⟩
        · rw [decide_eq_false hct]
          clear hct
          rintro e w6 ⟨rfl, rfl⟩
          go_wp2
          go_ret
          exact ⟨rfl, hb5w⟩
  · have hne : (ckWay nx != 0) = true := by simp [hc]
    have HC := Lib.hid hc
    clear hc
    go_enter Try.func9, Try.ntmps9
    go_wp2_with fail
    refine (K.partsBad A _ cap nx _ hx rfl HM.out HC.out).mono ?_
    rintro e w1 ⟨A1, c1, rfl, hb1⟩
    have hx1 := (hx.below hb1 (Nat.le_refl _)).more hb1.size
    go_wp2_with fail
    refine (may_any A _ cap nx _ hx1 rfl HM.out).mono ?_
    rw [decide_eq_false HC.out]
    rintro e w2 ⟨rfl, rfl⟩
    go_wp2
    go_ret
    exact ⟨ret_bool (by simp), hb1⟩

set_option maxRecDepth 100000 in
theorem lawWayPart_lifted (os : Os) (started : os.Started) (H : Type) (enc : TypeId × Value → H) :
    ReturnsInHanded {} Try.checked os 9 .any (Rows.wayPartSpec.pre6 enc Try.prog Try.f9 Rows.wayPartRow.domain false) (Rows.wayPartSpec.post enc Try.prog Try.f9 false true false false) := by
  refine returnsInHanded_of_change_sized (C := Try.checked) Try.own started (by kernel_rfl) Try.func9
    (ChangeSpec.witness6 (enc := enc) (C := Try.checked) false ⟨#[], #[.slice none 0 0], []⟩ 8 (by kernel_rfl) (by kernel_rfl) (by kernel_rfl) (by kernel_rfl)) ?_
  intro W base args ds gs before hval0 hW hcnd hsz _
  have hval : ∀ (j : Nat) t v, Try.f9.params[j]? = some t → args[j]? = some v → Value.okWide Try.prog W .any base t v := hval0
  have hW' := hW
  obtain ⟨p, q, hA0, hV, rfl, hfz, hnd⟩ := hW
  have hA : DataW.TrodAll enc Try.prog W 0 (fun _ => true) true Try.f9.params.toList args.toList ds p := hA0
  obtain ⟨hgs, _⟩ := trodVars_none hV
  rw [Try.params9] at hA hval
  obtain ⟨v0, vs0, d0, ds0, p0, q0, hargs, rfl, rfl, h0, r0⟩ := trodAll_cons hA
  obtain ⟨rfl, rfl, rfl⟩ := trodAll_nil r0
  have hargs2 : args = #[v0] := Array.toList_inj.1 hargs
  subst hargs2
  obtain ⟨A0, c0, l0, rfl, lc0, cm0, x0, r0⟩ := open_graphA (hval 0 22 v0 rfl rfl) h0
  have b0 := len_reach Try.underlying22 (hval 0 22 _ rfl rfl) h0 hsz (j := 0) (by rw [Try.params9]; rfl) rfl
  rw [show Try.prog.bytesOf (Try.prog.elem 22) = 24 from by kernel_rfl] at b0
  refine (lawWayPart_any wayIs A0 c0 l0 _ x0 (by omega)).mono fun e W' ⟨he, hb⟩ => ?_
  subst he
  exact ⟨_, rfl, law_post Try.laidOut rfl (by kernel_rfl) Try.underlying4 ⟨rfl, rfl, rfl⟩ (by kernel_rfl) hW' hb⟩

theorem wayPart_holds : Rows.WayPartSaid :=
  OpenClaim.holds_of_wide 9 Try.f9 rfl rfl rfl rfl rfl rfl rfl ⟨rfl, rfl, rfl, rfl, rfl⟩ rfl rfl rfl rfl rfl (by kernel_rfl) Try.func9 (show joinedFacts Try.prog 9 Try.f9 Rows.wayPartSpec Rows.wayPartRow = true from (by unfold joinedFacts; (repeat' (with_reducible refine and_both ?_ ?_)) <;> first | (with_reducible exact may_enter) | ((with_reducible refine make_ok ?_); rfl) | ((with_reducible refine lifts_ok ?_); rfl) | kernel_rfl))
    (of_decide_eq_true (by kernel_rfl)) (by unfold Func.isWrapper; rw [if_neg (of_decide_eq_false (by kernel_rfl))]; exact ⟨rfl, rfl⟩)
    (fun os started H enc _ => lawWayPart_lifted os started H enc)

end Go.Proofs.Ytikbblbehopcdaa
