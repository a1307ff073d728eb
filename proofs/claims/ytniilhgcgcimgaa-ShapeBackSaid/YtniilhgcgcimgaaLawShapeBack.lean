/-
  Structured programs made into blocks: block.Run on what shape.Flat makes gives the values that shape.Run gives, or says that there are too many steps, for all arguments (U1, U2): codemasonkeep.ShapeBack returns true and leaves its arguments alone. No condition.
-/
import Derived.Test.YtniilhgcgcimgaaShRunT
import Derived.Test.YtniilhgcgcimgaaShFlat
import Derived.Test.YtniilhgcgcimgaaPureShapeH
import Derived.Test.YtniilhgcgcimgaaMBlock
import Derived.Test.YtniilhgcgcimgaaIntsSame
import Derived.Test.YtniilhgcgcimgaaShOpen
namespace Go.Proofs.Ytniilhgcgcimgaa
open Go.RowKit Go.ChangeShapes Go.WideShapes Go.ChangeAt Go.Deep
set_option linter.unusedSimpArgs false
set_option linter.unusedVariables false
set_option maxRecDepth 100000

theorem flat_prog {n : Nat} {l : Sh} (hc : ckShape n l = 0) (h8 : (flSh l).length ≤ 8) : ckProg n (flSh l) = 0 := by
  obtain ⟨n', hn', hn1, hn6, hm8, hs20, _, hcs⟩ := ckShape_ok hc
  obtain rfl : n = n' := by omega
  have hg := flSh_grows l
  exact ckProg_of (by omega) (by omega) (by omega) (by omega) (by omega) (ckBks_of fun b hb => by
    obtain ⟨k, hk⟩ := List.getElem?_of_mem hb
    exact ckBk_of (flSh_ok hcs k b hk))

theorem flat_same {n : Nat} {l : Sh} {hv : List Int} {y : Nat × List Int} {x : List Int} {w : List Nat} {f : Nat} (hc : ckSh n l = 0) (hv0 : ValsOk n hv) (hy : exSh l 200 hv = some y) (hx : goP (flSh l) f 0 hv = some (x, w)) : x = y.2 := by
  obtain ⟨m, w2, _, h2⟩ := fl_run hc hv0 hy
  have h3 := goP_more h2 (Nat.le_max_left m f)
  have h4 := goP_more hx (Nat.le_max_right m f)
  rw [h3] at h4
  injection h4 with h4
  exact (congrArg Prod.fst h4).symm

theorem RunsTo.no {e : Ending} {w w' : World} (h : RunsTo none e w w') : ∃ (A1 A2 : Option Addr) (c1 c2 : Nat), e = .returned (.tuple #[.slice A1 0 c1, .slice A2 0 c2, .int .i64 7]) := by
  rcases h with ⟨_, h⟩ | ⟨x, l, A1, A2, c1, c2, h1, _⟩
  · exact h
  · cases h1

theorem RunsTo.yes {x : List Int} {l : List Nat} {n : Nat} {e : Ending} {w w' : World} (hx : x.length = n) (h : RunsTo (some (x, l)) e w w' ∧ Below w.heap.size w w') : ∃ (A1 A2 : Option Addr) (c1 c2 : Nat), e = .returned (.tuple #[.slice A1 n c1, .slice A2 l.length c2, .int .i64 0]) ∧ RdI w' w'.heap.size A1 x ∧ Below w.heap.size w w' := by
  obtain ⟨⟨h1, _⟩ | ⟨x', l', A1, A2, c1, c2, h1, h2, h3, _⟩, hb⟩ := h
  · cases h1
  · injection h1 with h1
    injection h1 with h1 h4
    subst h1
    subst h4
    exact ⟨A1, A2, c1, c2, by rw [← hx]; exact h2, h3, hb⟩

set_option maxHeartbeats 16000000 in
theorem lawShapeBack_any (vars : Int) (A HA : Option Addr) (cap hcap : Nat) (l : Sh) (hv : List Int) (w : World) (hx : RdH w 0 w.heap.size l A 0) (hin : InSh l) (hlen : l.len * 88 ≤ 140737488351232) (hh : RdI w w.heap.size HA hv) (hhm : hv.length ≤ maxLen) (hhc : hv.length ≤ hcap) :
    Calls Try.prog 6 #[.int .i64 vars, .slice A l.len cap, .slice HA hv.length hcap] w fun e w' => e = .returned (.bool true) ∧ Below w.heap.size w w' := by
  obtain ⟨len, hl⟩ : ∃ len, l.len = len := ⟨_, rfl⟩
  obtain ⟨hn, hhl⟩ : ∃ k, hv.length = k := ⟨_, rfl⟩
  by_cases hc1 : ckShape vars l = 0
  · obtain ⟨n, rfl, hn1, hn6, hm8, hs20, _, hcs⟩ := ckShape_ok hc1
    have HFL := Lib.hid (flat_any n l 0 A len cap w hx hl hin (by rw [← hl]; exact hlen) hc1)
    have hg := flSh_grows l
    have HFP := Lib.hid (fun h8 => flat_prog hc1 h8)
    obtain ⟨pn, hpn⟩ : ∃ pn, (flSh l).length = pn := ⟨_, rfl⟩
    have HPN := Lib.hid hpn
    rw [hpn] at HFL hg HFP
    have hp0 : ((pn : Int) == 0) = false := by simp; omega
    have hpg : decide ((0 : Int) < (pn : Int)) = true := by simp; omega
    by_cases hc2 : ckHave n hv = 0
    · have hvo := valsOk_of hc2
      obtain rfl : n = hn := by rw [← hhl]; exact hvo.1.symm
      have HVO := Lib.hid hvo
      have HTM := Lib.hid (exSh_tame hcs)
      have HRN := Lib.hid (fun (Z : World) (hZ : Below w.heap.size w Z) => shapeRun_any n l 0 A HA len cap hcap hv Z (hx.up hZ) hl hin (by rw [← hl]; exact hlen) (hh.up hZ) hc1 hc2)
      have HBL : Hid (∀ (Z : World) (A' : Option Addr) (c' : Nat), pn ≤ 8 → Below w.heap.size w Z → RdP Z Z.heap.size A' (flSh l) → Calls Try.prog 17 #[.int .i64 n, .slice A' pn c', .slice HA n hcap] Z fun e w' => RunsTo (goP (flSh l) 200 0 hv) e Z w' ∧ Below Z.heap.size Z w') := Lib.hid fun Z A' c' h8 hZ hp => blockRun_any n A' HA pn c' hcap (flSh l) hv Z hp (hh.up hZ) HPN.out (HFP.out h8) hvo
      have HSM := Lib.hid (fun (y : Nat × List Int) (x : List Int) (w : List Nat) (h1 : exSh l 200 hv = some y) (h2 : goP (flSh l) 200 0 hv = some (x, w)) => flat_same hcs hvo h1 h2)
      have hnm : n ≤ maxLen := by unfold maxLen; omega
      rw [hl, hhl]
      clear hx hin hlen hh hvo hcs hm8 hs20 hl hhl hhm hhc hc1 hc2 hg hpn HPN HFP
      cases hy : exSh l 200 hv with
      | none =>
        rw [hy] at HRN
        clear hy
        go_enter Try.func6, Try.ntmps6
        go_wp2_with (first
          | (go_at_call 13; (with_reducible refine HFL.out.mono ?_); rintro e w1 ⟨⟨A1, c1, rfl, hr1⟩, hb1⟩; have HB1 := Lib.hid hb1; have HR1 := Lib.hid hr1; clear hb1 hr1)
          | (go_at_call 9; (with_reducible refine (HRN.out _ HB1.out).mono ?_); rintro e w2 ⟨hrt, hb2⟩; obtain rfl := RunTo.no hrt; have HB2 := Lib.hid (below_via HB1.out hb2); clear hb2 hrt))
        go_ret
        exact ⟨ret_bool (by simp), HB2.out⟩
      | some y =>
        have HY2 := Lib.hid (HTM.out 200 hv y HVO.out hy)
        have HYL := Lib.hid HY2.out.2.1
        have HSY := Lib.hid (fun (x : List Int) (w : List Nat) => HSM.out y x w hy)
        rw [hy] at HRN
        clear hy
        by_cases h8 : pn ≤ 8
        · have hgt : decide ((8 : Int) < (pn : Int)) = false := by simp; omega
          have HBK := Lib.hid (fun (Z : World) (A' : Option Addr) (c' : Nat) => HBL.out Z A' c' h8)
          clear HBL
          cases hg : goP (flSh l) 200 0 hv with
          | none =>
            rw [hg] at HBK
            clear hg
            go_enter Try.func6, Try.ntmps6
            go_wp2_with (first
              | (go_at_call 13; (with_reducible refine HFL.out.mono ?_); rintro e w1 ⟨⟨A1, c1, rfl, hr1⟩, hb1⟩; have HB1 := Lib.hid hb1; have HR1 := Lib.hid hr1; clear hb1 hr1)
              | (go_at_call 9; (with_reducible refine (HRN.out _ HB1.out).mono ?_); rintro e w2 ⟨hrt, hb2⟩; obtain ⟨h2, c2, rfl, hr2⟩ := RunTo.yes hrt; have HB2 := Lib.hid (below_via HB1.out hb2); have HP2 := Lib.hid ((RdP.below HR1.out hb2 (Nat.le_refl _)).more hb2.size); have HR2 := Lib.hid hr2; clear hb2 hrt hr2)
              | (go_at_call 17; (with_reducible refine (HBK.out _ A1 c1 HB2.out HP2.out).mono ?_); rintro e w3 ⟨h3, hb3⟩; obtain ⟨A5, A6, c5, c6, rfl⟩ := RunsTo.no h3))
            go_ret
            exact ⟨ret_bool (by simp), below_via HB2.out hb3⟩
          | some z =>
            obtain ⟨x, lz⟩ := z
            obtain rfl := HSY.out x lz hg
            rw [hg] at HBK
            clear hg
            go_enter Try.func6, Try.ntmps6
            go_wp2_with (first
              | (go_at_call 13; (with_reducible refine HFL.out.mono ?_); rintro e w1 ⟨⟨A1, c1, rfl, hr1⟩, hb1⟩; have HB1 := Lib.hid hb1; have HR1 := Lib.hid hr1; clear hb1 hr1)
              | (go_at_call 9; (with_reducible refine (HRN.out _ HB1.out).mono ?_); rintro e w2 ⟨hrt, hb2⟩; obtain ⟨h2, c2, rfl, hr2⟩ := RunTo.yes hrt; have HB2 := Lib.hid (below_via HB1.out hb2); have HP2 := Lib.hid ((RdP.below HR1.out hb2 (Nat.le_refl _)).more hb2.size); have HR2 := Lib.hid hr2; clear hb2 hrt hr2)
              | (go_at_call 17; (with_reducible refine (HBK.out _ A1 c1 HB2.out HP2.out).mono ?_); intro e w3 h3; obtain ⟨A5, A6, c5, c6, rfl, hr5, hb3⟩ := RunsTo.yes HYL.out h3; have HB3 := Lib.hid (below_via HB2.out hb3); have HR3 := Lib.hid (HR2.out.up hb3); have HR5 := Lib.hid hr5; clear h3 hr5 hb3)
              | (go_at_call 12; (with_reducible refine (ints_same (some ⟨h2, 0, none⟩) A5 n c2 c5 y.2 _ HR3.out HR5.out HYL.out hnm).mono ?_); rintro e w5 ⟨rfl, hb5⟩))
            go_ret
            exact ⟨ret_bool (by simp), below_via HB3.out hb5⟩
        · have hgt : decide ((8 : Int) < (pn : Int)) = true := by simp; omega
          clear HBL
          go_enter Try.func6, Try.ntmps6
          go_wp2_with (first
            | (go_at_call 13; (with_reducible refine HFL.out.mono ?_); rintro e w1 ⟨⟨A1, c1, rfl, hr1⟩, hb1⟩; have HB1 := Lib.hid hb1; have HR1 := Lib.hid hr1; clear hb1 hr1)
            | (go_at_call 9; (with_reducible refine (HRN.out _ HB1.out).mono ?_); rintro e w2 ⟨hrt, hb2⟩; obtain ⟨h2, c2, rfl, hr2⟩ := RunTo.yes hrt; have HB2 := Lib.hid (below_via HB1.out hb2); have HP2 := Lib.hid ((RdP.below HR1.out hb2 (Nat.le_refl _)).more hb2.size); have HR2 := Lib.hid hr2; clear hb2 hrt hr2))
          go_ret
          exact ⟨ret_bool (by simp; omega), HB2.out⟩
    · have HRB := Lib.hid (fun (Z : World) (hZ : Below w.heap.size w Z) => shapeRun_bad n l 0 A HA len cap hn hcap hv Z (hx.up hZ) hl hin (by rw [← hl]; exact hlen) (hh.up hZ) hhl (by rw [← hhl]; exact hhm) (by unfold ckShRun; rw [if_pos hc1]; exact hc2))
      have he : ckShRun n l hv = ckHave n hv := by unfold ckShRun; rw [if_pos hc1]
      rw [he] at HRB
      obtain ⟨c, hce⟩ : ∃ c, ckHave n hv = c := ⟨_, rfl⟩
      rw [hce] at HRB hc2
      have hne : (c != 0) = true := by simp [hc2]
      rw [hl, hhl]
      clear hx hin hlen hh hcs hm8 hs20 hl hhl hhm hhc hc1 hc2 hg hpn HPN HFP he hce
      go_enter Try.func6, Try.ntmps6
      go_wp2_with (first
        | (go_at_call 13; (with_reducible refine HFL.out.mono ?_); rintro e w1 ⟨⟨A1, c1, rfl, hr1⟩, hb1⟩; have HB1 := Lib.hid hb1; have HR1 := Lib.hid hr1; clear hb1 hr1)
        | (go_at_call 9; (with_reducible refine (HRB.out _ HB1.out).mono ?_); rintro e w2 ⟨rfl, hb2⟩; have HB2 := Lib.hid (below_via HB1.out hb2); clear hb2))
      go_ret
      exact ⟨ret_bool (by simp), HB2.out⟩
  · have HFB := Lib.hid (flat_bad vars l 0 A len cap w hx hl hin (by rw [← hl]; exact hlen) hc1)
    obtain ⟨c, hce⟩ : ∃ c, ckShape vars l = c := ⟨_, rfl⟩
    rw [hce] at HFB hc1
    rw [hl, hhl]
    have hne : (c != 0) = true := by simp [hc1]
    clear hx hin hlen hh hl hhl hhm hhc hc1 hce
    go_enter Try.func6, Try.ntmps6
    go_wp2_with (go_at_call 13; (with_reducible refine HFB.out.mono ?_); rintro e w1 ⟨rfl, hb1⟩; have HB1 := Lib.hid hb1; clear hb1)
    go_ret
    exact ⟨ret_bool (by simp), HB1.out⟩

set_option maxRecDepth 100000 in
theorem lawShapeBack_lifted (os : Os) (started : os.Started) (H : Type) (enc : TypeId × Value → H) :
    ReturnsInHanded {} Try.checked os 6 .any (Rows.shapeBackSpec.pre6 enc Try.prog Try.f6 Rows.shapeBackRow.domain false) (Rows.shapeBackSpec.post enc Try.prog Try.f6 false true false false) := by
  refine returnsInHanded_of_change_sized (C := Try.checked) Try.own started (by kernel_rfl) Try.func6
    (ChangeSpec.witness6 (enc := enc) (C := Try.checked) false ⟨#[], #[.int .i64 0, .slice none 0 0, .slice none 0 0], []⟩ 8 (by kernel_rfl) (by kernel_rfl) (by kernel_rfl) (by kernel_rfl)) ?_
  intro W base args ds gs before hval0 hW hcnd hsz _
  have hval : ∀ (j : Nat) t v, Try.f6.params[j]? = some t → args[j]? = some v → Value.okWide Try.prog W .any base t v := hval0
  have hW' := hW
  obtain ⟨p, q, hA0, hV, rfl, hfz, hnd⟩ := hW
  have hA : DataW.TrodAll enc Try.prog W 0 (fun _ => true) true Try.f6.params.toList args.toList ds p := hA0
  obtain ⟨hgs, _⟩ := trodVars_none hV
  rw [Try.params6] at hA hval
  obtain ⟨v0, vs0, d0, ds0, p0, q0, hargs, rfl, rfl, h0, r0⟩ := trodAll_cons hA
  obtain ⟨v1, vs1, d1, ds1, p1, q1, rfl, rfl, rfl, h1, r1⟩ := trodAll_cons r0
  obtain ⟨v2, vs2, d2, ds2, p2, q2, rfl, rfl, rfl, h2, r2⟩ := trodAll_cons r1
  obtain ⟨rfl, rfl, rfl⟩ := trodAll_nil r2
  have hargs2 : args = #[v0, v1, v2] := Array.toList_inj.1 hargs
  subst hargs2
  obtain ⟨a0, rfl, _, _, w0⟩ := open_int Try.underlying3 (hval 0 3 v0 rfl rfl) h0
  obtain ⟨A1, c1, l1, rfl, lc1, cm1, x1, g1⟩ := open_shapesA (reach_at hsz (j := 1) (t := 22) (by rw [Try.params6]; rfl) rfl) (hval 1 22 v1 rfl rfl) h1
  have b1 := len_reach Try.underlying22 (hval 1 22 _ rfl rfl) h1 hsz (j := 1) (by rw [Try.params6]; rfl) rfl
  rw [show Try.prog.bytesOf (Try.prog.elem 22) = 88 from by kernel_rfl] at b1
  obtain ⟨A2, c2, l2, rfl, lc2, cm2, x2, r2⟩ := open_intsA (hval 2 26 v2 rfl rfl) h2
  have b2 := len_reach Try.underlying26 (hval 2 26 _ rfl rfl) h2 hsz (j := 2) (by rw [Try.params6]; rfl) rfl
  rw [show Try.prog.bytesOf (Try.prog.elem 26) = 8 from by kernel_rfl] at b2
  refine (lawShapeBack_any a0 A1 A2 c1 c2 l1 l2 _ x1 g1.1 g1.2 x2 (by omega) lc2).mono fun e W' ⟨he, hb⟩ => ?_
  subst he
  exact ⟨_, rfl, law_post Try.laidOut rfl (by kernel_rfl) Try.underlying4 ⟨rfl, rfl, rfl⟩ (by kernel_rfl) hW' hb⟩

theorem shapeBack_holds : Rows.ShapeBackSaid :=
  OpenClaim.holds_of_wide 6 Try.f6 rfl rfl rfl rfl rfl rfl rfl ⟨rfl, rfl, rfl, rfl, rfl⟩ rfl rfl rfl rfl rfl (by kernel_rfl) Try.func6 (show joinedFacts Try.prog 6 Try.f6 Rows.shapeBackSpec Rows.shapeBackRow = true from (by unfold joinedFacts; (repeat' (with_reducible refine and_both ?_ ?_)) <;> first | (with_reducible exact may_enter) | ((with_reducible refine make_ok ?_); rfl) | ((with_reducible refine lifts_ok ?_); rfl) | kernel_rfl))
    (of_decide_eq_true (by kernel_rfl)) (by unfold Func.isWrapper; rw [if_neg (of_decide_eq_false (by kernel_rfl))]; exact ⟨rfl, rfl⟩)
    (fun os started H enc _ => lawShapeBack_lifted os started H enc)

end Go.Proofs.Ytniilhgcgcimgaa
