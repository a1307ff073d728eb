/-
  shape.Run tells what structured programs end with, or that there are too many turns, or what is wrong, for all arguments (U1): codemasonlaw.ShapeRuns returns true and leaves its arguments alone. No condition.
-/
import Derived.Test.YtniilhgcgcimgaaShRunT
import Derived.Test.YtniilhgcgcimgaaShSize
import Derived.Test.YtniilhgcgcimgaaShShaped
import Derived.Test.YtniilhgcgcimgaaIntsSame
namespace Go.Proofs.Ytniilhgcgcimgaa
open Go.RowKit Go.ChangeShapes Go.WideShapes Go.ChangeAt Go.Deep
set_option linter.unusedSimpArgs false
set_option linter.unusedVariables false
set_option maxRecDepth 100000

theorem rdI_none (w : World) : RdI w w.heap.size none [] := fun h => by simp at h

set_option maxHeartbeats 16000000 in
theorem lawShapeRuns_any (vars : Int) (A HA : Option Addr) (cap hcap : Nat) (l : Sh) (hv : List Int) (w : World) (hx : RdH w 0 w.heap.size l A 0) (hin : InSh l) (hlen : l.len * 88 ≤ 140737488351232) (hh : RdI w w.heap.size HA hv) (hhm : hv.length ≤ maxLen) (hhc : hv.length ≤ hcap) :
    Calls Try.prog 4 #[.int .i64 vars, .slice A l.len cap, .slice HA hv.length hcap] w fun e w' => e = .returned (.bool true) ∧ Below w.heap.size w w' := by
  obtain ⟨len, hl⟩ : ∃ len, l.len = len := ⟨_, rfl⟩
  obtain ⟨hn, hhl⟩ : ∃ k, hv.length = k := ⟨_, rfl⟩
  have HSC := Lib.hid (fun (Z : World) (hZ : Below w.heap.size w Z) => refShapeCheck_any vars l 0 A len cap Z (hx.up hZ) hl hin (by rw [← hl]; exact hlen))
  have HHC := Lib.hid (fun (Z : World) (hZ : Below w.heap.size w Z) => haveCheck_any vars HA hn hcap hv _ Z (hh.up hZ) hhl (by rw [← hhl]; exact hhm))
  have HNN : Hid (∀ Z : World, Calls Try.prog 12 #[.slice none 0 0, .slice none 0 0] Z fun e w' => e = .returned (.bool true) ∧ Below Z.heap.size Z w') := Lib.hid fun Z => ints_same none none 0 0 0 [] Z (rdI_none Z) (rdI_none Z) rfl (Nat.zero_le _)
  by_cases hc : ckShRun vars l hv = 0
  · have hc1 : ckShape vars l = 0 := by
      unfold ckShRun at hc
      split at hc
      · assumption
      · rename_i h; exact absurd hc h
    have hc2 : ckHave vars hv = 0 := by
      unfold ckShRun at hc
      rwa [if_pos hc1] at hc
    obtain ⟨n, rfl, hn1, hn6, hm8, hs20, _, hcs⟩ := ckShape_ok hc1
    have hvo := valsOk_of hc2
    obtain rfl : n = hn := by rw [← hhl]; exact hvo.1.symm
    have HVO := Lib.hid hvo
    have hft : FitSh l := ⟨by omega, by omega⟩
    have HRN := Lib.hid (shapeRun_any n l 0 A HA len cap hcap hv w hx hl hin (by rw [← hl]; exact hlen) hh hc1 hc2)
    have HSD : Hid (∀ Z : World, Below w.heap.size w Z → Calls Try.prog 11 #[.slice A len cap, .slice HA n hcap, .int .i64 200] Z fun e w' => ShTo (exSh l 200 hv) n e w' ∧ Below Z.heap.size Z w') := Lib.hid fun Z hZ => by
      have := refShaped_any n 0 hn1 (by omega) _ l (Nat.le_refl _) hft hcs A HA cap hcap 200 hv Z (hx.up hZ) (hh.up hZ) hvo (by rw [← hhl]; exact hhc) (by omega)
      rw [hl] at this
      exact this
    rw [hc1] at HSC
    rw [hc2] at HHC
    rw [hl, hhl]
    have HTM := Lib.hid (exSh_tame hcs)
    have hnm : n ≤ maxLen := by unfold maxLen; omega
    clear hc hc1 hc2 hx hin hlen hh hvo hft hcs hm8 hs20 hl hhl hhm hhc
    cases hy : exSh l 200 hv with
    | none =>
      rw [hy] at HRN HSD
      clear hy
      go_enter Try.func4, Try.ntmps4
      go_wp2_with (first
        | (go_at_call 9; (with_reducible refine HRN.out.mono ?_); rintro e w1 ⟨hrt, hb1⟩; obtain rfl := RunTo.no hrt; have HB1 := Lib.hid hb1; clear hb1 hrt)
        | (go_at_call 8; (with_reducible refine (HSC.out _ HB1.out).mono ?_); rintro e w2 ⟨rfl, hb2⟩; have HB2 := Lib.hid (below_via HB1.out hb2); clear hb2)
        | (go_at_call 10; (with_reducible refine (HHC.out _ HB2.out).mono ?_); rintro e w3 ⟨rfl, rfl⟩)
        | (go_at_call 11; (with_reducible refine (HSD.out _ HB2.out).mono ?_); rintro e w4 ⟨hsh, hb4⟩; obtain ⟨A7, m7, c7, T7, rfl, hT7⟩ := hsh.none; have hT8 : decide (T7 < 0) = true := decide_eq_true hT7; have HB4 := Lib.hid (below_via HB2.out hb4); clear hb4 hsh)
        | (go_at_call 12; (with_reducible refine (HNN.out _).mono ?_); rintro e w5 ⟨rfl, hb5⟩))
      go_ret
      exact ⟨ret_bool (by simp), below_via HB4.out hb5⟩
    | some y =>
      have HY2 := Lib.hid (HTM.out 200 hv y HVO.out hy)
      have HYL := Lib.hid HY2.out.2.1
      have htn : decide (((y.1 : Nat) : Int) < 0) = false := by simp
      rw [hy] at HRN HSD
      clear hy
      go_enter Try.func4, Try.ntmps4
      go_wp2_with (first
        | (go_at_call 9; (with_reducible refine HRN.out.mono ?_); rintro e w1 ⟨hrt, hb1⟩; obtain ⟨h1, c1, rfl, hr1⟩ := RunTo.yes hrt; have HB1 := Lib.hid hb1; have HR1 := Lib.hid hr1; clear hb1 hrt hr1)
        | (go_at_call 8; (with_reducible refine (HSC.out _ HB1.out).mono ?_); rintro e w2 ⟨rfl, hb2⟩; have HB2 := Lib.hid (below_via HB1.out hb2); have HR2 := Lib.hid (HR1.out.up hb2); clear hb2)
        | (go_at_call 10; (with_reducible refine (HHC.out _ HB2.out).mono ?_); rintro e w3 ⟨rfl, rfl⟩)
        | (go_at_call 11; (with_reducible refine (HSD.out _ HB2.out).mono ?_); rintro e w4 ⟨hsh, hb4⟩; obtain ⟨A7, c7, rfl, hr7, hc7⟩ := hsh.some; have HB4 := Lib.hid (below_via HB2.out hb4); have HR4 := Lib.hid (HR2.out.up hb4); have HR7 := Lib.hid hr7; clear hb4 hsh hr7)
        | (go_at_call 12; (with_reducible refine (ints_same (some ⟨h1, 0, none⟩) A7 n c1 c7 y.2 _ HR4.out HR7.out HYL.out hnm).mono ?_); rintro e w5 ⟨rfl, hb5⟩))
      go_ret
      exact ⟨ret_bool (by simp), below_via HB4.out hb5⟩
  · have HRB := Lib.hid (shapeRun_bad vars l 0 A HA len cap hn hcap hv w hx hl hin (by rw [← hl]; exact hlen) hh hhl (by rw [← hhl]; exact hhm) hc)
    rw [hl, hhl]
    by_cases h0 : ckShape vars l = 0
    · have he : ckShRun vars l hv = ckHave vars hv := by unfold ckShRun; rw [if_pos h0]
      rw [he] at HRB hc
      rw [h0] at HSC
      obtain ⟨c, hce⟩ : ∃ c, ckHave vars hv = c := ⟨_, rfl⟩
      rw [hce] at HRB HHC hc
      have hne : (c == 0) = false := by simp [hc]
      clear hx hin hlen hh hl hhl hhm hhc hc he h0 hce
      go_enter Try.func4, Try.ntmps4
      go_wp2_with (first
        | (go_at_call 9; (with_reducible refine HRB.out.mono ?_); rintro e w1 ⟨rfl, hb1⟩; have HB1 := Lib.hid hb1; clear hb1)
        | (go_at_call 8; (with_reducible refine (HSC.out _ HB1.out).mono ?_); rintro e w2 ⟨rfl, hb2⟩; have HB2 := Lib.hid (below_via HB1.out hb2); clear hb2)
        | (go_at_call 10; (with_reducible refine (HHC.out _ HB2.out).mono ?_); rintro e w3 ⟨rfl, rfl⟩)
        | (go_at_call 12; (with_reducible refine (HNN.out _).mono ?_); rintro e w5 ⟨rfl, hb5⟩))
      go_ret
      exact ⟨ret_bool (by simp), below_via HB2.out hb5⟩
    · have he : ckShRun vars l hv = ckShape vars l := by unfold ckShRun; rw [if_neg h0]
      rw [he] at HRB hc
      obtain ⟨c, hce⟩ : ∃ c, ckShape vars l = c := ⟨_, rfl⟩
      rw [hce] at HRB HSC hc
      have hne : (c == 0) = false := by simp [hc]
      clear hx hin hlen hh hl hhl hhm hhc hc he h0 hce
      go_enter Try.func4, Try.ntmps4
      go_wp2_with (first
        | (go_at_call 9; (with_reducible refine HRB.out.mono ?_); rintro e w1 ⟨rfl, hb1⟩; have HB1 := Lib.hid hb1; clear hb1)
        | (go_at_call 8; (with_reducible refine (HSC.out _ HB1.out).mono ?_); rintro e w2 ⟨rfl, hb2⟩; have HB2 := Lib.hid (below_via HB1.out hb2); clear hb2)
        | (go_at_call 12; (with_reducible refine (HNN.out _).mono ?_); rintro e w5 ⟨rfl, hb5⟩))
      go_ret
      exact ⟨ret_bool (by simp), below_via HB2.out hb5⟩

set_option maxRecDepth 100000 in
theorem lawShapeRuns_lifted (os : Os) (started : os.Started) (H : Type) (enc : TypeId × Value → H) :
    ReturnsInHanded {} Try.checked os 4 .any (Rows.shapeRunsSpec.pre6 enc Try.prog Try.f4 Rows.shapeRunsRow.domain false) (Rows.shapeRunsSpec.post enc Try.prog Try.f4 false true false false) := by
  refine returnsInHanded_of_change_sized (C := Try.checked) Try.own started (by kernel_rfl) Try.func4
    (ChangeSpec.witness6 (enc := enc) (C := Try.checked) false ⟨#[], #[.int .i64 0, .slice none 0 0, .slice none 0 0], []⟩ 8 (by kernel_rfl) (by kernel_rfl) (by kernel_rfl) (by kernel_rfl)) ?_
  intro W base args ds gs before hval0 hW hcnd hsz _
  have hval : ∀ (j : Nat) t v, Try.f4.params[j]? = some t → args[j]? = some v → Value.okWide Try.prog W .any base t v := hval0
  have hW' := hW
  obtain ⟨p, q, hA0, hV, rfl, hfz, hnd⟩ := hW
  have hA : DataW.TrodAll enc Try.prog W 0 (fun _ => true) true Try.f4.params.toList args.toList ds p := hA0
  obtain ⟨hgs, _⟩ := trodVars_none hV
  rw [Try.params4] at hA hval
  obtain ⟨v0, vs0, d0, ds0, p0, q0, hargs, rfl, rfl, h0, r0⟩ := trodAll_cons hA
  obtain ⟨v1, vs1, d1, ds1, p1, q1, rfl, rfl, rfl, h1, r1⟩ := trodAll_cons r0
  obtain ⟨v2, vs2, d2, ds2, p2, q2, rfl, rfl, rfl, h2, r2⟩ := trodAll_cons r1
  obtain ⟨rfl, rfl, rfl⟩ := trodAll_nil r2
  have hargs2 : args = #[v0, v1, v2] := Array.toList_inj.1 hargs
  subst hargs2
  obtain ⟨a0, rfl, _, _, w0⟩ := open_int Try.underlying3 (hval 0 3 v0 rfl rfl) h0
  obtain ⟨A1, c1, l1, rfl, lc1, cm1, x1, g1⟩ := open_shapesA (reach_at hsz (j := 1) (t := 22) (by rw [Try.params4]; rfl) rfl) (hval 1 22 v1 rfl rfl) h1
  have b1 := len_reach Try.underlying22 (hval 1 22 _ rfl rfl) h1 hsz (j := 1) (by rw [Try.params4]; rfl) rfl
  rw [show Try.prog.bytesOf (Try.prog.elem 22) = 88 from by kernel_rfl] at b1
  obtain ⟨A2, c2, l2, rfl, lc2, cm2, x2, r2⟩ := open_intsA (hval 2 26 v2 rfl rfl) h2
  have b2 := len_reach Try.underlying26 (hval 2 26 _ rfl rfl) h2 hsz (j := 2) (by rw [Try.params4]; rfl) rfl
  rw [show Try.prog.bytesOf (Try.prog.elem 26) = 8 from by kernel_rfl] at b2
  refine (lawShapeRuns_any a0 A1 A2 c1 c2 l1 l2 _ x1 g1.1 g1.2 x2 (by omega) lc2).mono fun e W' ⟨he, hb⟩ => ?_
  subst he
  exact ⟨_, rfl, law_post Try.laidOut rfl (by kernel_rfl) Try.underlying4 ⟨rfl, rfl, rfl⟩ (by kernel_rfl) hW' hb⟩

theorem shapeRuns_holds : Rows.ShapeRunsSaid :=
  OpenClaim.holds_of_wide 4 Try.f4 rfl rfl rfl rfl rfl rfl rfl ⟨rfl, rfl, rfl, rfl, rfl⟩ rfl rfl rfl rfl rfl (by kernel_rfl) Try.func4 (show joinedFacts Try.prog 4 Try.f4 Rows.shapeRunsSpec Rows.shapeRunsRow = true from (by unfold joinedFacts; (repeat' (with_reducible refine and_both ?_ ?_)) <;> first | (with_reducible exact may_enter) | ((with_reducible refine make_ok ?_); rfl) | ((with_reducible refine lifts_ok ?_); rfl) | kernel_rfl))
    (of_decide_eq_true (by kernel_rfl)) (by unfold Func.isWrapper; rw [if_neg (of_decide_eq_false (by kernel_rfl))]; exact ⟨rfl, rfl⟩)
    (fun os started H enc _ => lawShapeRuns_lifted os started H enc)

end Go.Proofs.Ytniilhgcgcimgaa
