/-
  hang.Last returns the postdominators of H1, or the first error, for all arguments: codemasonlaw.HangLasts returns true and leaves its arguments alone. No condition.
-/
import Derived.Test.YtfijkkllfbpepaaHang
import Derived.Test.YtfijkkllfbpepaaLawLoop
namespace Go.Proofs.Ytfijkkllfbpepaa
open Go.RowKit Go.ChangeShapes Go.WideShapes Go.ChangeAt Go.Deep
set_option linter.unusedSimpArgs false
set_option linter.unusedVariables false
set_option maxRecDepth 100000

set_option maxHeartbeats 4000000 in
theorem lawHangLasts_any (K : LastIs) (A : Option Addr) (cap : Nat) (nx : List (List Int)) (w : World) (hx : RdG w w.heap.size A nx) (hm : nx.length ≤ maxLen) :
    Calls Try.prog 3 #[.slice A nx.length cap] w fun e w' => e = .returned (.bool true) ∧ Below w.heap.size w w' := by
  have HM := Lib.hid hm
  unfold maxLen at hm
  by_cases hc : ckWay nx = 0
  · have HC := Lib.hid hc
    obtain ⟨hb1', hb2', _⟩ := ckWay_bd hc
    obtain ⟨f, hf⟩ := sure_bool nx
    have HF := Lib.hid hf
    obtain ⟨len, hlen⟩ : ∃ len, nx.length = len := ⟨_, rfl⟩
    have HLEN := Lib.hid hlen
    rw [hlen] at hb1' hb2' hm ⊢
    clear hc hlen hf
    go_enter Try.func3, Try.ntmps3
    go_wp2_with fail
    refine (K.last A _ cap nx _ hx HLEN.out HC.out).mono ?_
    rintro e w1 ⟨ws, A1, c1, hpt, rfl, hr1, hb1⟩
    have hx1 := (hx.below hb1 (Nat.le_refl _)).more hb1.size
    have HPT := Lib.hid hpt
    have HWL := Lib.hid (hpt.len.trans HLEN.out)
    clear hpt
    go_wp2_with fail
    refine (refWayCheck_any A _ cap nx _ hx1 HLEN.out).mono ?_
    rintro e w2 ⟨rfl, rfl⟩
    rw [HC.out]
    go_wp2
    go_loopw [6] (fun z wr => ∃ i : Nat, i ≤ len ∧ z = .int .i64 i ∧ Below w1.heap.size w1 wr) (fun z _ => len - (intOf z).toNat)
    case atStart => exact ⟨0, Nat.zero_le _, rfl, Below.refl _ _⟩
    case round =>
      obtain ⟨i, hi, rfl, hbr⟩ := hrel
      have hszr := hbr.size
      by_cases hlt : i < len
      · obtain ⟨wo, rfl⟩ : ∃ wo : World, wo = wr := ⟨_, rfl⟩
        obtain ⟨W, hW⟩ : ∃ W, ws[i]? = some W := ⟨_, List.getElem?_eq_getElem (by rw [HWL.out]; exact hlt)⟩
        have HMEM := Lib.hid (HPT.out.mem i W hW)
        have hwlt := HPT.out.lt i W hW
        rw [HLEN.out] at hwlt
        have hpw : 2 ^ len ≤ 2 ^ 8 := Nat.pow_le_pow_right (by omega) hb2'
        have hW8 : W < 2 ^ 8 := by omega
        have hW32 : W < 4294967296 := by omega
        have HW := Lib.hid hW
        have HWLT := Lib.hid hwlt
        clear hW hpw hwlt
        go_wp2
        go_loopw [7] (fun z wi => ∃ j : Nat, j ≤ len ∧ z = .int .i64 j ∧ Below w1.heap.size w1 wi) (fun z _ => len - (intOf z).toNat)
        case atStart => exact ⟨0, Nat.zero_le _, rfl, hbr⟩
        case round =>
          obtain ⟨j, hj, rfl, hbi⟩ := hrel
          have hszi := hbi.size
          obtain ⟨a1, x', rfl, hbl1, hd1, hcx⟩ := (hr1.below hbi (Nat.le_refl _)).at_ (k := i) (by rw [HWL.out]; exact hlt)
          rw [HW.out] at hd1
          injection hd1 with hd1
          subst hd1
          by_cases hjt : j < len
          · have hxi := (hx1.below hbi (Nat.le_refl _)).more hbi.size
            have hbb : bitB W (j : Int) = f i j := by rw [bitB_nat hW8, Bool.eq_iff_iff, HMEM.out, HF.out]
            have HBB := Lib.hid hbb
            clear hbb
            go_wp2_with (go_at_call 9; (with_reducible refine (bit_any W _ _ hW32).mono ?_); rw [HBB.out]; rintro e w5 ⟨rfl, rfl⟩)
            refine (refSure_any f A _ cap nx i j _ HF.out hxi HLEN.out HC.out hlt).mono ?_
            rintro e w6 ⟨rfl, hb6⟩
            have hb16 := hbi.trans (hb6.mono hszi)
            go_wp2
            go_round
            case rel => exact ⟨j + 1, by omega, by go_num, hb16⟩
            case measure => (simp [intOf]; omega)
          · have hl32 : len < 32 := by omega
            go_wp2_with (go_at_call 11; (with_reducible refine (refFits_any len W _ hl32 HWLT.out).mono ?_); rintro e w5 ⟨rfl, rfl⟩)
            go_round
            case rel => exact ⟨i + 1, by omega, by go_num, hbi⟩
            case measure => (simp [intOf]; omega)
      · have hil : i = len := by omega
        subst hil
        go_wp2
        go_ret
        exact ⟨ret_bool (by simp), hb1.trans (hbr.mono hb1.size)⟩
  · have hne : (ckWay nx != 0) = true := by simp [hc]
    have HC := Lib.hid hc
    clear hc
    go_enter Try.func3, Try.ntmps3
    go_wp2_with fail
    refine (K.lastBad A _ cap nx _ hx rfl HM.out HC.out).mono ?_
    rintro e w1 ⟨A1, c1, rfl, hb1⟩
    have hx1 := (hx.below hb1 (Nat.le_refl _)).more hb1.size
    go_wp2_with fail
    refine (refWayCheck_any A _ cap nx _ hx1 rfl).mono ?_
    rintro e w2 ⟨rfl, rfl⟩
    go_wp2
    go_ret
    exact ⟨ret_bool (by simp), hb1⟩

set_option maxRecDepth 100000 in
theorem lawHangLasts_lifted (os : Os) (started : os.Started) (H : Type) (enc : TypeId × Value → H) :
    ReturnsInHanded {} Try.checked os 3 .any (Rows.hangLastsSpec.pre6 enc Try.prog Try.f3 Rows.hangLastsRow.domain false) (Rows.hangLastsSpec.post enc Try.prog Try.f3 false true false false) := by
  refine returnsInHanded_of_change_sized (C := Try.checked) Try.own started (by kernel_rfl) Try.func3
    (ChangeSpec.witness6 (enc := enc) (C := Try.checked) false ⟨#[], #[.slice none 0 0], []⟩ 8 (by kernel_rfl) (by kernel_rfl) (by kernel_rfl) (by kernel_rfl)) ?_
  intro W base args ds gs before hval0 hW hcnd hsz _
  have hval : ∀ (j : Nat) t v, Try.f3.params[j]? = some t → args[j]? = some v → Value.okWide Try.prog W .any base t v := hval0
  have hW' := hW
  obtain ⟨p, q, hA0, hV, rfl, hfz, hnd⟩ := hW
  have hA : DataW.TrodAll enc Try.prog W 0 (fun _ => true) true Try.f3.params.toList args.toList ds p := hA0
  obtain ⟨hgs, _⟩ := trodVars_none hV
  rw [Try.params3] at hA hval
  obtain ⟨v0, vs0, d0, ds0, p0, q0, hargs, rfl, rfl, h0, r0⟩ := trodAll_cons hA
  obtain ⟨rfl, rfl, rfl⟩ := trodAll_nil r0
  have hargs2 : args = #[v0] := Array.toList_inj.1 hargs
  subst hargs2
  obtain ⟨A0, c0, l0, rfl, lc0, cm0, x0, r0⟩ := open_graphA (hval 0 22 v0 rfl rfl) h0
  have b0 := len_reach Try.underlying22 (hval 0 22 _ rfl rfl) h0 hsz (j := 0) (by rw [Try.params3]; rfl) rfl
  rw [show Try.prog.bytesOf (Try.prog.elem 22) = 24 from by kernel_rfl] at b0
  refine (lawHangLasts_any lastIs A0 c0 l0 _ x0 (by omega)).mono fun e W' ⟨he, hb⟩ => ?_
  subst he
  exact ⟨_, rfl, law_post Try.laidOut rfl (by kernel_rfl) Try.underlying4 ⟨rfl, rfl, rfl⟩ (by kernel_rfl) hW' hb⟩

theorem hangLasts_holds : Rows.HangLastsSaid :=
  OpenClaim.holds_of_wide 3 Try.f3 rfl rfl rfl rfl rfl rfl rfl ⟨rfl, rfl, rfl, rfl, rfl⟩ rfl rfl rfl rfl rfl (by kernel_rfl) Try.func3 (show joinedFacts Try.prog 3 Try.f3 Rows.hangLastsSpec Rows.hangLastsRow = true from (by unfold joinedFacts; (repeat' (with_reducible refine and_both ?_ ?_)) <;> first | (with_reducible exact may_enter) | ((with_reducible refine make_ok ?_); rfl) | ((with_reducible refine lifts_ok ?_); rfl) | kernel_rfl))
    (of_decide_eq_true (by kernel_rfl)) (by unfold Func.isWrapper; rw [if_neg (of_decide_eq_false (by kernel_rfl))]; exact ⟨rfl, rfl⟩)
    (fun os started H enc _ => lawHangLasts_lifted os started H enc)

end Go.Proofs.Ytfijkkllfbpepaa
