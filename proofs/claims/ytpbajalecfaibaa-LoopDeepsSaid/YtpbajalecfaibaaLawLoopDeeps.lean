/-
  loop.Deep counts for each node the loops that hold it (G1), or gives the first error, for all arguments: codemasonlaw.LoopDeeps returns true and leaves its arguments alone. No condition.
-/
import Derived.Test.YtpbajalecfaibaaLawLoop
import Derived.Test.YtpbajalecfaibaaLoopFold
import Derived.Deep.RegionWith
namespace Go.Proofs.Ytpbajalecfaibaa
open Go.RowKit Go.ChangeShapes Go.WideShapes Go.ChangeAt Go.Deep
set_option linter.unusedSimpArgs false
set_option linter.unusedVariables false
set_option maxRecDepth 100000

set_option maxHeartbeats 4000000 in
theorem lawLoopDeeps_any (K : LoopIs) (A : Option Addr) (cap : Nat) (nx : List (List Int)) (w : World) (hx : RdG w w.heap.size A nx) (hm : nx.length ≤ maxLen) :
    Calls Try.prog 6 #[.slice A nx.length cap] w fun e w' => e = .returned (.bool true) ∧ Below w.heap.size w w' := by
  have HM := Lib.hid hm
  unfold maxLen at hm
  by_cases hc : ckWay nx = 0
  · have HC := Lib.hid hc
    obtain ⟨hb1', hb2', _⟩ := ckWay_bd hc
    obtain ⟨f, hf⟩ := dom_bool nx
    have HF := Lib.hid hf
    obtain ⟨ws, hws⟩ := lps_ex hc
    obtain ⟨len, hlen⟩ : ∃ len, nx.length = len := ⟨_, rfl⟩
    have HLEN := Lib.hid hlen
    have HLP := Lib.hid hws
    have HWL := Lib.hid (hws.len.trans hlen)
    rw [hlen] at hb1' hb2' hm ⊢
    clear hc hlen hf hws
    go_enter Try.func6, Try.ntmps6
    go_wp2_with fail
    refine (K.deep A _ cap nx _ hx HLEN.out HC.out).mono ?_
    rintro e w1 ⟨ds, A1, c1, hpt, rfl, hr1, hb1⟩
    have hx1 := (hx.below hb1 (Nat.le_refl _)).more hb1.size
    have HPT := Lib.hid hpt
    have HDL := Lib.hid (hpt.len.trans HLEN.out)
    clear hpt
    go_wp2_with fail
    refine (refWayCheck_any A _ cap nx _ hx1 HLEN.out).mono ?_
    rintro e w2 ⟨rfl, rfl⟩
    rw [HC.out]
    go_wp2
    go_loopw [6] (fun z wr => ∃ i : Nat, i ≤ len ∧ z = .int .i64 i ∧ Below w1.heap.size w1 wr) (fun z _ => len - (intOf z).toNat)
    case atStart => exact ⟨0, Nat.zero_le _, rfl, Below.refl _ _⟩
    case round =>
      obtain ⟨i, hi, rfl, hbr⟩ := hrel
      have hszr := hbr.size
      by_cases hlt : i < len
      · obtain ⟨wo, rfl⟩ : ∃ wo : World, wo = wr := ⟨_, rfl⟩
        obtain ⟨a1, d, rfl, hbl1, hd, hcx⟩ := (hr1.below hbr (Nat.le_refl _)).at_ (k := i) (by rw [HDL.out]; exact hlt)
        have HDE := Lib.hid (HPT.out.at_ i d hd ws HLP.out)
        clear hd
        go_wp2
        go_loopw [7, 8] (fun y z wr => ∃ h : Nat, h ≤ len ∧ z = .int .i64 h ∧ y = .int .i64 (dpN ws i h : Nat) ∧ Below wo.heap.size wo wr) (fun _ z _ => len - (intOf z).toNat)
        case atStart => exact ⟨0, Nat.zero_le _, rfl, by simp [dpN], Below.refl _ _⟩
        case round =>
          obtain ⟨h, hh, rfl, rfl, hbi⟩ := hrel
          have hszi := hbi.size
          by_cases hht : h < len
          · obtain ⟨W, hW⟩ : ∃ W, ws[h]? = some W := ⟨_, List.getElem?_eq_getElem (by rw [HWL.out]; exact hht)⟩
            have hW8 := HLP.out.lt h W hW
            have HMEM := Lib.hid (HLP.out.mem h W hW)
            have HW := Lib.hid hW
            have hxr := (hx1.below (hbr.trans (hbi.mono hszr)) (Nat.le_refl _)).more (Nat.le_trans hszr hszi)
            have hdl := dpN_le ws i h
            clear hW
            go_wp2_with fail
            refine (refLoop_any f W A _ cap nx h _ HF.out HMEM.out hxr HLEN.out HC.out hht).mono ?_
            rintro e w5 ⟨rfl, hb5⟩
            go_wp2_with fail
            refine (bit_any W _ _ (by omega)).mono ?_
            rw [bitB_nat (show W < 2 ^ 8 from hW8)]
            rintro e w6 ⟨rfl, rfl⟩
            have hb56 := hbi.trans (hb5.mono hszi)
            cases hv : W.testBit i with
            | true =>
              have HN := Lib.hid (dpN_yes HW.out hv)
              clear hv
              go_wp2
              go_round
              case rel => exact ⟨h + 1, by omega, by go_num, by rw [HN.out]; go_num, hb56⟩
              case measure => (simp [intOf]; omega)
            | false =>
              have HN := Lib.hid (dpN_no HW.out hv)
              clear hv
              go_wp2
              go_round
              case rel => exact ⟨h + 1, by omega, by go_num, by rw [HN.out], hb56⟩
              case measure => (simp [intOf]; omega)
          · have hhl : h = len := by omega
            subst hhl
            have hcx2 := (hbi.cell (p := a1.add i) (by omega)).trans hcx
            have hde : d = (dpN ws i h : Nat) := by rw [HDE.out, HWL.out]
            have hne : (d != ((dpN ws i h : Nat) : Int)) = false := by rw [← hde]; simp
            clear hde
            have hbf := hbr.trans (hbi.mono hszr)
            go_wp2
            go_round
            case rel => exact ⟨i + 1, by omega, by go_num, hbf⟩
            case measure => (simp [intOf]; omega)
      · have hil : i = len := by omega
        subst hil
        go_wp2
        go_ret
        exact ⟨ret_bool (by simp), hb1.trans (hbr.mono hb1.size)⟩
  · have hne : (ckWay nx != 0) = true := by simp [hc]
    have HC := Lib.hid hc
    clear hc
    go_enter Try.func6, Try.ntmps6
    go_wp2_with fail
    refine (K.deepBad A _ cap nx _ hx rfl HM.out HC.out).mono ?_
    rintro e w1 ⟨A1, c1, rfl, hb1⟩
    have hx1 := (hx.below hb1 (Nat.le_refl _)).more hb1.size
    go_wp2_with fail
    refine (refWayCheck_any A _ cap nx _ hx1 rfl).mono ?_
    rintro e w2 ⟨rfl, rfl⟩
    go_wp2
    go_ret
    exact ⟨ret_bool (by simp), hb1⟩

set_option maxRecDepth 100000 in
theorem lawLoopDeeps_lifted (os : Os) (started : os.Started) (H : Type) (enc : TypeId × Value → H) :
    ReturnsInHanded {} Try.checked os 6 .any (Rows.loopDeepsSpec.pre6 enc Try.prog Try.f6 Rows.loopDeepsRow.domain false) (Rows.loopDeepsSpec.post enc Try.prog Try.f6 false true false false) := by
  refine returnsInHanded_of_change_sized (C := Try.checked) Try.own started (by kernel_rfl) Try.func6
    (ChangeSpec.witness6 (enc := enc) (C := Try.checked) false ⟨#[], #[.slice none 0 0], []⟩ 8 (by kernel_rfl) (by kernel_rfl) (by kernel_rfl) (by kernel_rfl)) ?_
  intro W base args ds gs before hval0 hW hcnd hsz _
  have hval : ∀ (j : Nat) t v, Try.f6.params[j]? = some t → args[j]? = some v → Value.okWide Try.prog W .any base t v := hval0
  have hW' := hW
  obtain ⟨p, q, hA0, hV, rfl, hfz, hnd⟩ := hW
  have hA : DataW.TrodAll enc Try.prog W 0 (fun _ => true) true Try.f6.params.toList args.toList ds p := hA0
  obtain ⟨hgs, _⟩ := trodVars_none hV
  rw [Try.params6] at hA hval
  obtain ⟨v0, vs0, d0, ds0, p0, q0, hargs, rfl, rfl, h0, r0⟩ := trodAll_cons hA
  obtain ⟨rfl, rfl, rfl⟩ := trodAll_nil r0
  have hargs2 : args = #[v0] := Array.toList_inj.1 hargs
  subst hargs2
  obtain ⟨A0, c0, l0, rfl, lc0, cm0, x0, r0⟩ := open_graphA (hval 0 22 v0 rfl rfl) h0
  have b0 := len_reach Try.underlying22 (hval 0 22 _ rfl rfl) h0 hsz (j := 0) (by rw [Try.params6]; rfl) rfl
  rw [show Try.prog.bytesOf (Try.prog.elem 22) = 24 from by kernel_rfl] at b0
  refine (lawLoopDeeps_any loopIs A0 c0 l0 _ x0 (by omega)).mono fun e W' ⟨he, hb⟩ => ?_
  subst he
  exact ⟨_, rfl, law_post Try.laidOut rfl (by kernel_rfl) Try.underlying4 ⟨rfl, rfl, rfl⟩ (by kernel_rfl) hW' hb⟩

theorem loopDeeps_holds : Rows.LoopDeepsSaid :=
  OpenClaim.holds_of_wide 6 Try.f6 rfl rfl rfl rfl rfl rfl rfl ⟨rfl, rfl, rfl, rfl, rfl⟩ rfl rfl rfl rfl rfl (by kernel_rfl) Try.func6 (show joinedFacts Try.prog 6 Try.f6 Rows.loopDeepsSpec Rows.loopDeepsRow = true from (by unfold joinedFacts; (repeat' (with_reducible refine and_both ?_ ?_)) <;> first | (with_reducible exact may_enter) | ((with_reducible refine make_ok ?_); rfl) | ((with_reducible refine lifts_ok ?_); rfl) | kernel_rfl))
    (of_decide_eq_true (by kernel_rfl)) (by unfold Func.isWrapper; rw [if_neg (of_decide_eq_false (by kernel_rfl))]; exact ⟨rfl, rfl⟩)
    (fun os started H enc _ => lawLoopDeeps_lifted os started H enc)

end Go.Proofs.Ytpbajalecfaibaa
