/-
  loop.Loops returns the natural loops of G1, or the first error, for all arguments: codemasonlaw.LoopTells returns true and leaves its arguments alone. No condition.
-/
import Derived.Test.YtpbajalecfaibaaLawLoop
import Derived.Test.YtpbajalecfaibaaLoopFold
import Derived.Deep.RegionWith
namespace Go.Proofs.Ytpbajalecfaibaa
open Go.RowKit Go.ChangeShapes Go.WideShapes Go.ChangeAt Go.Deep
set_option linter.unusedSimpArgs false
set_option linter.unusedVariables false
set_option maxRecDepth 100000

set_option maxHeartbeats 4000000 in
theorem lawLoopTells_any (K : LoopIs) (A : Option Addr) (cap : Nat) (nx : List (List Int)) (w : World) (hx : RdG w w.heap.size A nx) (hm : nx.length ≤ maxLen) :
    Calls Try.prog 5 #[.slice A nx.length cap] w fun e w' => e = .returned (.bool true) ∧ Below w.heap.size w w' := by
  have HM := Lib.hid hm
  unfold maxLen at hm
  by_cases hc : ckWay nx = 0
  · have HC := Lib.hid hc
    obtain ⟨hb1', hb2', _⟩ := ckWay_bd hc
    obtain ⟨f, hf⟩ := dom_bool nx
    have HF := Lib.hid hf
    obtain ⟨len, hlen⟩ : ∃ len, nx.length = len := ⟨_, rfl⟩
    have HLEN := Lib.hid hlen
    rw [hlen] at hb1' hb2' hm ⊢
    clear hc hlen hf
    go_enter Try.func5, Try.ntmps5
    go_wp2_with fail
    refine (K.loops A _ cap nx _ hx HLEN.out HC.out).mono ?_
    rintro e w1 ⟨ws, A1, c1, hpt, rfl, hr1, hb1⟩
    have hx1 := (hx.below hb1 (Nat.le_refl _)).more hb1.size
    have HPT := Lib.hid hpt
    have HWL := Lib.hid (hpt.len.trans HLEN.out)
    clear hpt
    go_wp2_with fail
    refine (refWayCheck_any A _ cap nx _ hx1 HLEN.out).mono ?_
    rintro e w2 ⟨rfl, rfl⟩
    rw [HC.out]
    go_wp2
    go_loopw [6] (fun z wr => ∃ i : Nat, i ≤ len ∧ z = .int .i64 i ∧ Below w1.heap.size w1 wr) (fun z _ => len - (intOf z).toNat)
    case atStart => exact ⟨0, Nat.zero_le _, rfl, Below.refl _ _⟩
    case round =>
      obtain ⟨i, hi, rfl, hbr⟩ := hrel
      have hszr := hbr.size
      by_cases hlt : i < len
      · obtain ⟨a1, W, rfl, hbl1, hW, hcx⟩ := (hr1.below hbr (Nat.le_refl _)).at_ (k := i) (by rw [HWL.out]; exact hlt)
        have hxr := (hx1.below hbr (Nat.le_refl _)).more hszr
        have HE := Lib.hid (refLoop_any f W A _ cap nx i wr.drew HF.out (HPT.out.mem i W hW) (show RdG wr.drew wr.drew.heap.size A nx from hxr) HLEN.out HC.out hlt)
        have hbla : (a1.add i).block < wr.heap.size := by omega
        clear hW
        go_wp2
        go_region_with ((go_at_call 19; (with_reducible refine HE.out.mono ?_); rintro e w5 ⟨rfl, hb5⟩; have hcx5 := (hb5.cell (p := a1.add i) (by show (a1.add i).block < wr.heap.size; exact hbla)).trans (show wr.drew.cell? (a1.add i) = _ from hcx)))
        all_goals
          have hb6 : Below w1.heap.size w1 w5 := hbr.trans (Below.mono (B := wr.drew.heap.size) (show Below wr.drew.heap.size wr w5 from ⟨hb5.os, hb5.tape, hb5.output, hb5.size, hb5.block⟩) hszr)
          go_wp2
          go_round
          case rel => exact ⟨i + 1, by omega, by go_num, hb6⟩
          case measure => (simp [intOf]; omega)
      · have hil : i = len := by omega
        subst hil
        go_wp2
        go_ret
        exact ⟨ret_bool (by simp), hb1.trans (hbr.mono hb1.size)⟩
  · have hne : (ckWay nx != 0) = true := by simp [hc]
    have HC := Lib.hid hc
    clear hc
    go_enter Try.func5, Try.ntmps5
    go_wp2_with fail
    refine (K.loopsBad A _ cap nx _ hx rfl HM.out HC.out).mono ?_
    rintro e w1 ⟨A1, c1, rfl, hb1⟩
    have hx1 := (hx.below hb1 (Nat.le_refl _)).more hb1.size
    go_wp2_with fail
    refine (refWayCheck_any A _ cap nx _ hx1 rfl).mono ?_
    rintro e w2 ⟨rfl, rfl⟩
    go_wp2
    go_ret
    exact ⟨ret_bool (by simp), hb1⟩

set_option maxRecDepth 100000 in
theorem lawLoopTells_lifted (os : Os) (started : os.Started) (H : Type) (enc : TypeId × Value → H) :
    ReturnsInHanded {} Try.checked os 5 .any (Rows.loopTellsSpec.pre6 enc Try.prog Try.f5 Rows.loopTellsRow.domain false) (Rows.loopTellsSpec.post enc Try.prog Try.f5 false true false false) := by
  refine returnsInHanded_of_change_sized (C := Try.checked) Try.own started (by kernel_rfl) Try.func5
    (ChangeSpec.witness6 (enc := enc) (C := Try.checked) false ⟨#[], #[.slice none 0 0], []⟩ 8 (by kernel_rfl) (by kernel_rfl) (by kernel_rfl) (by kernel_rfl)) ?_
  intro W base args ds gs before hval0 hW hcnd hsz _
  have hval : ∀ (j : Nat) t v, Try.f5.params[j]? = some t → args[j]? = some v → Value.okWide Try.prog W .any base t v := hval0
  have hW' := hW
  obtain ⟨p, q, hA0, hV, rfl, hfz, hnd⟩ := hW
  have hA : DataW.TrodAll enc Try.prog W 0 (fun _ => true) true Try.f5.params.toList args.toList ds p := hA0
  obtain ⟨hgs, _⟩ := trodVars_none hV
  rw [Try.params5] at hA hval
  obtain ⟨v0, vs0, d0, ds0, p0, q0, hargs, rfl, rfl, h0, r0⟩ := trodAll_cons hA
  obtain ⟨rfl, rfl, rfl⟩ := trodAll_nil r0
  have hargs2 : args = #[v0] := Array.toList_inj.1 hargs
  subst hargs2
  obtain ⟨A0, c0, l0, rfl, lc0, cm0, x0, r0⟩ := open_graphA (hval 0 22 v0 rfl rfl) h0
  have b0 := len_reach Try.underlying22 (hval 0 22 _ rfl rfl) h0 hsz (j := 0) (by rw [Try.params5]; rfl) rfl
  rw [show Try.prog.bytesOf (Try.prog.elem 22) = 24 from by kernel_rfl] at b0
  refine (lawLoopTells_any loopIs A0 c0 l0 _ x0 (by omega)).mono fun e W' ⟨he, hb⟩ => ?_
  subst he
  exact ⟨_, rfl, law_post Try.laidOut rfl (by kernel_rfl) Try.underlying4 ⟨rfl, rfl, rfl⟩ (by kernel_rfl) hW' hb⟩

theorem loopTells_holds : Rows.LoopTellsSaid :=
  OpenClaim.holds_of_wide 5 Try.f5 rfl rfl rfl rfl rfl rfl rfl ⟨rfl, rfl, rfl, rfl, rfl⟩ rfl rfl rfl rfl rfl (by kernel_rfl) Try.func5 (show joinedFacts Try.prog 5 Try.f5 Rows.loopTellsSpec Rows.loopTellsRow = true from (by unfold joinedFacts; (repeat' (with_reducible refine and_both ?_ ?_)) <;> first | (with_reducible exact may_enter) | ((with_reducible refine make_ok ?_); rfl) | ((with_reducible refine lifts_ok ?_); rfl) | kernel_rfl))
    (of_decide_eq_true (by kernel_rfl)) (by unfold Func.isWrapper; rw [if_neg (of_decide_eq_false (by kernel_rfl))]; exact ⟨rfl, rfl⟩)
    (fun os started H enc _ => lawLoopTells_lifted os started H enc)

end Go.Proofs.Ytpbajalecfaibaa
