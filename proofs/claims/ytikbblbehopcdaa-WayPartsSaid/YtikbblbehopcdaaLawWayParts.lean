/-
  way.Parts returns the parts of E2, or the first error, for all arguments: codemasonlaw.WayParts returns true and leaves its arguments alone. No condition.
-/
import Derived.Test.YtikbblbehopcdaaLawWay
import Derived.Test.YtikbblbehopcdaaReachRef
namespace Go.Proofs.Ytikbblbehopcdaa
open Go.RowKit Go.ChangeShapes Go.WideShapes Go.ChangeAt Go.Deep
set_option linter.unusedSimpArgs false
set_option linter.unusedVariables false
set_option maxRecDepth 100000

theorem ex_bool (P : Prop) : ∃ b : Bool, b = true ↔ P := by
  by_cases h : P
  · exact ⟨true, by simp [h]⟩
  · exact ⟨false, by simp [h]⟩

theorem has_of {hs : List Nat} {j : Nat} {b : Bool} (h : j ∈ hs ↔ b = true) : hasB (ni hs) (j : Int) = b := by
  rw [Bool.eq_iff_iff, hasB_iff, ni_mem]
  exact h

set_option maxHeartbeats 4000000 in
theorem lawWayParts_any (K : WayIs) (A : Option Addr) (cap : Nat) (nx : List (List Int)) (w : World) (hx : RdG w w.heap.size A nx) (hm : nx.length ≤ maxLen) :
    Calls Try.prog 7 #[.slice A nx.length cap] w fun e w' => e = .returned (.bool true) ∧ Below w.heap.size w w' := by
  have HM := Lib.hid hm
  unfold maxLen at hm
  by_cases hc : ckWay nx = 0
  · have HC := Lib.hid hc
    obtain ⟨hb1', hb2', _⟩ := ckWay_bd hc
    obtain ⟨len, hlen⟩ : ∃ len, nx.length = len := ⟨_, rfl⟩
    have HLEN := Lib.hid hlen
    have HP2 : Hid (2 ^ nx.length ≤ 2 ^ 8) := Lib.hid (Nat.pow_le_pow_right (by omega) hb2')
    rw [hlen] at hb1' hb2' hm ⊢
    clear hc hlen
    go_enter Try.func7, Try.ntmps7
    go_wp2_with fail
    refine (K.parts A _ cap nx _ hx HLEN.out HC.out).mono ?_
    rintro e w1 ⟨ws, A1, c1, hpt, rfl, hr1, hb1⟩
    have hx1 := (hx.below hb1 (Nat.le_refl _)).more hb1.size
    have HPT := Lib.hid hpt
    have HWL := Lib.hid hpt.len
    clear hpt
    go_wp2_with fail
    refine (refWayCheck_any A _ cap nx _ hx1 HLEN.out).mono ?_
    rintro e w2 ⟨rfl, rfl⟩
    rw [HC.out]
    go_wp2
    go_loopw [6] (fun z wr => ∃ i : Nat, i ≤ len ∧ z = .int .i64 i ∧ Below w1.heap.size w1 wr) (fun z _ => len - (intOf z).toNat)
    case atStart => exact ⟨0, Nat.zero_le _, rfl, Below.refl _ _⟩
    case round =>
      obtain ⟨i, hi, rfl, hbr⟩ := hrel
      have hszr := hbr.size
      by_cases hlt : i < len
      · obtain ⟨wo, rfl⟩ : ∃ wo : World, wo = wr := ⟨_, rfl⟩
        obtain ⟨W, hW⟩ : ∃ W, ws[i]? = some W := ⟨_, List.getElem?_eq_getElem (by rw [HWL.out, HLEN.out]; exact hlt)⟩
        have hWn := HPT.out.lt i W hW
        have hmem := HPT.out.mem i W hW
        have hW8 : W < 2 ^ 8 := Nat.lt_of_lt_of_le hWn HP2.out
        rw [HLEN.out] at hWn
        have HWN := Lib.hid hWn
        have HW8 := Lib.hid hW8
        have HMEM := Lib.hid hmem
        have HW := Lib.hid hW
        have hW32 : W < 4294967296 := by omega
        clear hW hWn hmem hW8
        go_wp2
        go_loopw [7, 8] (fun z y wi => ∃ j : Nat, j ≤ len ∧ z = .int .i64 j ∧ Below w1.heap.size w1 wi) (fun z _ _ => len - (intOf z).toNat)
        case atStart => exact ⟨0, Nat.zero_le _, rfl, hbr⟩
        case round =>
          obtain ⟨j, hj, rfl, hbi⟩ := hrel
          have hszi := hbi.size
          by_cases hjt : j < len
          · have hxi := (hx1.below hbi (Nat.le_refl _)).more hbi.size
            obtain ⟨a1, x', rfl, hbl1, hd1, hcx⟩ := (hr1.below hbi (Nat.le_refl _)).at_ (k := i) (by rw [HWL.out, HLEN.out]; exact hlt)
            rw [HW.out] at hd1
            injection hd1 with hd1
            subst hd1
            obtain ⟨bi, hbi1⟩ : ∃ b : Bool, b = true ↔ Rea nx (-1) i j := ex_bool _
            obtain ⟨bj, hbj1⟩ : ∃ b : Bool, b = true ↔ Rea nx (-1) j i := ex_bool _
            have hbit : bitB W (j : Int) = (bi && bj) := by
              rw [bitB_nat HW8.out, Bool.eq_iff_iff, HMEM.out, Bool.and_eq_true, hbi1, hbj1]
              rfl
            have HBI := Lib.hid hbi1
            have HBJ := Lib.hid hbj1
            have HBIT := Lib.hid hbit
            clear hbi1 hbj1 hbit
            go_wp2_with fail
            refine (refReach_any A _ cap nx i (-1) _ hxi HLEN.out HC.out hlt).mono ?_
            rintro e w3 ⟨hs, A2, c2, hrc, rfl, hr2, hb2⟩
            have hhl := hrc.len
            have e1 : hasB (ni hs) (j : Int) = bi := has_of (by rw [hrc.mem, HBI.out])
            have E1 := Lib.hid e1
            rw [HLEN.out] at hhl
            have hb3 := hbi.trans (hb2.mono hszi)
            have hcx3 := (hb2.cell (p := a1.add i) (by omega)).trans hcx
            have hx3 := (hx1.below hb3 (Nat.le_refl _)).more hb3.size
            have hs3 := hb3.size
            clear hrc e1 hb2
            go_wp2_with fail
            refine (has_any _ A2 _ c2 (ni hs) _ _ hr2 (by simp [ni]) (by unfold maxLen; omega)).mono ?_
            rw [E1.out]
            rintro e w4 ⟨rfl, rfl⟩
            cases bi with
            | true =>
              go_wp2_with fail
              refine (refReach_any A _ cap nx j (-1) _ hx3 HLEN.out HC.out hjt).mono ?_
              rintro e w4 ⟨hs4, A4, c4, hrc, rfl, hr4, hb4⟩
              have hhl4 := hrc.len
              have e1 : hasB (ni hs4) (i : Int) = bj := has_of (by rw [hrc.mem, HBJ.out])
              have E4 := Lib.hid e1
              rw [HLEN.out] at hhl4
              have hb5 := hb3.trans (hb4.mono hs3)
              have hcx4 := (hb4.cell (p := a1.add i) (by omega)).trans hcx3
              clear hrc e1 hb4
              go_wp2_with fail
              refine (has_any _ A4 _ c4 (ni hs4) _ _ hr4 (by simp [ni]) (by unfold maxLen; omega)).mono ?_
              rw [E4.out]
              rintro e w5 ⟨rfl, rfl⟩
              go_wp2_with fail
              refine (bit_any W _ _ hW32).mono ?_
              rw [HBIT.out]
              rintro e w5 ⟨rfl, rfl⟩
              cases bj
              all_goals
                go_wp2
                go_round
                case rel => exact ⟨j + 1, by omega, by go_num, hb5⟩
                case measure => (simp [intOf]; omega)
            | false =>
              go_wp2_with fail
              refine (bit_any W _ _ hW32).mono ?_
              rw [HBIT.out]
              rintro e w5 ⟨rfl, rfl⟩
              go_wp2
              go_round
              case rel => exact ⟨j + 1, by omega, by go_num, hb3⟩
              case measure => (simp [intOf]; omega)
          · obtain ⟨a1, x', rfl, hbl1, hd1, hcx⟩ := (hr1.below hbi (Nat.le_refl _)).at_ (k := i) (by rw [HWL.out, HLEN.out]; exact hlt)
            rw [HW.out] at hd1
            injection hd1 with hd1
            subst hd1
            go_wp2_with fail
            refine (refFits_any len W _ (by omega) HWN.out).mono ?_
            rintro e w5 ⟨rfl, rfl⟩
            go_wp2
            go_round
            case rel => exact ⟨i + 1, by omega, by go_num, hbi⟩
            case measure => (simp [intOf]; omega)
      · have hil : i = len := by omega
        subst hil
        go_wp2
        go_ret
        exact ⟨ret_bool (by simp), hb1.trans (hbr.mono hb1.size)⟩
  · have hne : (ckWay nx != 0) = true := by simp [hc]
    have HC := Lib.hid hc
    clear hc
    go_enter Try.func7, Try.ntmps7
    go_wp2_with fail
    refine (K.partsBad A _ cap nx _ hx rfl HM.out HC.out).mono ?_
    rintro e w1 ⟨A1, c1, rfl, hb1⟩
    have hx1 := (hx.below hb1 (Nat.le_refl _)).more hb1.size
    go_wp2_with fail
    refine (refWayCheck_any A _ cap nx _ hx1 rfl).mono ?_
    rintro e w2 ⟨rfl, rfl⟩
    go_wp2
    go_ret
    exact ⟨ret_bool (by simp), hb1⟩

set_option maxRecDepth 100000 in
theorem lawWayParts_lifted (os : Os) (started : os.Started) (H : Type) (enc : TypeId × Value → H) :
    ReturnsInHanded {} Try.checked os 7 .any (Rows.wayPartsSpec.pre6 enc Try.prog Try.f7 Rows.wayPartsRow.domain false) (Rows.wayPartsSpec.post enc Try.prog Try.f7 false true false false) := by
  refine returnsInHanded_of_change_sized (C := Try.checked) Try.own started (by kernel_rfl) Try.func7
    (ChangeSpec.witness6 (enc := enc) (C := Try.checked) false ⟨#[], #[.slice none 0 0], []⟩ 8 (by kernel_rfl) (by kernel_rfl) (by kernel_rfl) (by kernel_rfl)) ?_
  intro W base args ds gs before hval0 hW hcnd hsz _
  have hval : ∀ (j : Nat) t v, Try.f7.params[j]? = some t → args[j]? = some v → Value.okWide Try.prog W .any base t v := hval0
  have hW' := hW
  obtain ⟨p, q, hA0, hV, rfl, hfz, hnd⟩ := hW
  have hA : DataW.TrodAll enc Try.prog W 0 (fun _ => true) true Try.f7.params.toList args.toList ds p := hA0
  obtain ⟨hgs, _⟩ := trodVars_none hV
  rw [Try.params7] at hA hval
  obtain ⟨v0, vs0, d0, ds0, p0, q0, hargs, rfl, rfl, h0, r0⟩ := trodAll_cons hA
  obtain ⟨rfl, rfl, rfl⟩ := trodAll_nil r0
  have hargs2 : args = #[v0] := Array.toList_inj.1 hargs
  subst hargs2
  obtain ⟨A0, c0, l0, rfl, lc0, cm0, x0, r0⟩ := open_graphA (hval 0 22 v0 rfl rfl) h0
  have b0 := len_reach Try.underlying22 (hval 0 22 _ rfl rfl) h0 hsz (j := 0) (by rw [Try.params7]; rfl) rfl
  rw [show Try.prog.bytesOf (Try.prog.elem 22) = 24 from by kernel_rfl] at b0
  refine (lawWayParts_any wayIs A0 c0 l0 _ x0 (by omega)).mono fun e W' ⟨he, hb⟩ => ?_
  subst he
  exact ⟨_, rfl, law_post Try.laidOut rfl (by kernel_rfl) Try.underlying4 ⟨rfl, rfl, rfl⟩ (by kernel_rfl) hW' hb⟩

theorem wayParts_holds : Rows.WayPartsSaid :=
  OpenClaim.holds_of_wide 7 Try.f7 rfl rfl rfl rfl rfl rfl rfl ⟨rfl, rfl, rfl, rfl, rfl⟩ rfl rfl rfl rfl rfl (by kernel_rfl) Try.func7 (show joinedFacts Try.prog 7 Try.f7 Rows.wayPartsSpec Rows.wayPartsRow = true from (by unfold joinedFacts; (repeat' (with_reducible refine and_both ?_ ?_)) <;> first | (with_reducible exact may_enter) | ((with_reducible refine make_ok ?_); rfl) | ((with_reducible refine lifts_ok ?_); rfl) | kernel_rfl))
    (of_decide_eq_true (by kernel_rfl)) (by unfold Func.isWrapper; rw [if_neg (of_decide_eq_false (by kernel_rfl))]; exact ⟨rfl, rfl⟩)
    (fun os started H enc _ => lawWayParts_lifted os started H enc)

end Go.Proofs.Ytikbblbehopcdaa
