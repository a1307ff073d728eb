/-
  shape.Flat makes structured programs into programs of blocks that are right and give the same values, or tells what is wrong, for all arguments (U2): codemasonlaw.ShapeFlats returns true and leaves its arguments alone. No condition.
-/
import Derived.Test.YtniilhgcgcimgaaShFlat
import Derived.Test.YtniilhgcgcimgaaShSize
import Derived.Test.YtniilhgcgcimgaaShShaped
import Derived.Test.YtniilhgcgcimgaaShGo
import Derived.Test.YtniilhgcgcimgaaShCC
import Derived.Test.YtniilhgcgcimgaaPureShapeH
import Derived.Test.YtniilhgcgcimgaaIntsSame
import Derived.Test.YtniilhgcgcimgaaMBase
import Derived.Test.YtniilhgcgcimgaaShOpen
namespace Go.Proofs.Ytniilhgcgcimgaa
open Go.RowKit Go.ChangeShapes Go.WideShapes Go.ChangeAt Go.Deep
set_option linter.unusedSimpArgs false
set_option linter.unusedVariables false
set_option maxRecDepth 100000

theorem GoesTo.yes {x : List Int} {l : List Nat} {n : Nat} {e : Ending} {w w' : World} (hx : x.length = n) (h : GoesTo (some (x, l)) e w w') : ∃ A1 A2 c1 c2, e = .returned (.tuple #[.slice A1 n c1, .slice A2 l.length c2, .bool true]) ∧ RdI w' w'.heap.size A1 x := by
  rcases h with ⟨h, _⟩ | ⟨x2, l2, A1, A2, c1, c2, h, h2, h3, _⟩
  · cases h
  · injection h with h
    injection h with h1 h4
    subst h1 h4
    exact ⟨A1, A2, c1, c2, by rw [← hx]; exact h2, h3⟩

/-- what the blocks give, within so many -/
theorem flat_goes {n : Nat} {l : Sh} {hv : List Int} {y : Nat × List Int} (hc : ckSh n l = 0) (h8 : l.many ≤ 8) (hv0 : ValsOk n hv) (hy : exSh l 200 hv = some y) : ∃ w, goP (flSh l) 20000 0 hv = some (y.2, w) := by
  obtain ⟨m, w, h1, h2⟩ := fl_run hc hv0 hy
  exact ⟨w, goP_more h2 (by omega)⟩

set_option maxHeartbeats 16000000 in
theorem lawShapeFlats_any (vars : Int) (A HA : Option Addr) (cap hcap : Nat) (l : Sh) (hv : List Int) (w : World) (hx : RdH w 0 w.heap.size l A 0) (hin : InSh l) (hlen : l.len * 88 ≤ 140737488351232) (hh : RdI w w.heap.size HA hv) (hhm : hv.length ≤ maxLen) (hhc : hv.length ≤ hcap) :
    Calls Try.prog 5 #[.int .i64 vars, .slice A l.len cap, .slice HA hv.length hcap] w fun e w' => e = .returned (.bool true) ∧ Below w.heap.size w w' := by
  obtain ⟨len, hl⟩ : ∃ len, l.len = len := ⟨_, rfl⟩
  obtain ⟨hn, hhl⟩ : ∃ k, hv.length = k := ⟨_, rfl⟩
  have HSC := Lib.hid (fun (Z : World) (hZ : Below w.heap.size w Z) => refShapeCheck_any vars l 0 A len cap Z (hx.up hZ) hl hin (by rw [← hl]; exact hlen))
  by_cases hc1 : ckShape vars l = 0
  · obtain ⟨n, rfl, hn1, hn6, hm8, hs20, _, hcs⟩ := ckShape_ok hc1
    have HFL := Lib.hid (flat_any n l 0 A len cap w hx hl hin (by rw [← hl]; exact hlen) hc1)
    have hg := flSh_grows l
    have HCS := Lib.hid hcs
    have HBK := Lib.hid (flSh_ok hcs)
    have HMS : Hid (manyS (flSh l) ≤ 20) := Lib.hid (by omega)
    have HHC := Lib.hid (fun (Z : World) (hZ : Below w.heap.size w Z) => haveCheck_any n HA hn hcap hv _ Z (hh.up hZ) hhl (by rw [← hhl]; exact hhm))
    have HHH := Lib.hid (fun (Z : World) (hZ : Below w.heap.size w Z) => hh.up hZ)
    have HXX := Lib.hid (fun (Z : World) (hZ : Below w.heap.size w Z) => hx.up hZ)
    have hft : FitSh l := ⟨by omega, by omega⟩
    have HFT := Lib.hid hft
    have HHL := Lib.hid hhl
    have HHI : Hid (hn ≤ hcap) := Lib.hid (by rw [← hhl]; exact hhc)
    have HL := Lib.hid hl
    obtain ⟨pn, hpn⟩ : ∃ pn, (flSh l).length = pn := ⟨_, rfl⟩
    have HPN := Lib.hid hpn
    rw [hpn] at HFL hg
    have hp0 : ((pn : Int) == 0) = false := by simp; omega
    have hp25 : pn ≤ 25 := by omega
    rw [hc1] at HSC
    rw [hl, hhl]
    clear hx hin hlen hh hcs hs20 hl hhl hhm hhc hc1 hpn hft
    go_enter Try.func5, Try.ntmps5
    go_wp2_with (first
      | (go_at_call 13; (with_reducible refine HFL.out.mono ?_); rintro e w1 ⟨⟨A1, c1, rfl, hr1⟩, hb1⟩; have HB1 := Lib.hid hb1; have HR1 := Lib.hid hr1; clear hb1 hr1)
      | (go_at_call 8; (with_reducible refine (HSC.out _ HB1.out).mono ?_); rintro e w2 ⟨rfl, hb2⟩; have HB2 := Lib.hid (below_via HB1.out hb2); have HP2 := Lib.hid ((RdP.below HR1.out hb2 (Nat.le_refl _)).more hb2.size); clear hb2))
    go_loopw [45] (fun z wr => ∃ (k : Nat), k ≤ pn ∧ z = .int .i64 k ∧ Hid (Below w2.heap.size w2 wr)) (fun z _ => pn - (intOf z).toNat)
    case atStart => exact ⟨0, Nat.zero_le _, rfl, Lib.hid (Below.refl _ _)⟩
    case round =>
      obtain ⟨k, hk, rfl, HK⟩ := hrel
      by_cases hlt : k < pn
      · obtain ⟨ad, ⟨code, te, th, el⟩, Ac, cc, rfl, hbl, hd, hrow, hc0, hc1, hc2, hc3, hcc⟩ := (RdP.below HP2.out HK.out (Nat.le_refl _)).atc (k := k) (by rw [HPN.out]; exact hlt)
        have hbk := HBK.out _ _ hd
        have hcm := manyS_le hd
        rw [HPN.out] at hbk
        obtain ⟨hk1, hk2, hk3, hk4⟩ := hbk
        simp only [] at hc0 hc1 hc2 hc3 hcm hrow hk1 hk2 hk3 hk4 hcc
        have hblr : (ad.add (k * 4)).block < wr.heap.size := Nat.lt_of_lt_of_le hbl HK.out.size
        obtain ⟨cl, hcl⟩ : ∃ cl, code.length = cl := ⟨_, rfl⟩
        rw [hcl] at hc0
        have HKX : Hid (Below w2.heap.size w2 (wr.alloc (.cells #[.slice Ac cl cc, .int .i64 te, .int .i64 th, .int .i64 el] 39))) := Lib.hid (below_via HK.out (by go_grown))
        have HOB : Hid (Own (wr.alloc (.cells #[.slice Ac cl cc, .int .i64 te, .int .i64 th, .int .i64 el] 39)) wr.heap.size 39 [.slice Ac cl cc, .int .i64 te, .int .i64 th, .int .i64 el]) := Lib.hid (Own.new wr _ _)
        have HCC := Lib.hid (codeCodeC_any n Ac cl cc code (wr.alloc (.cells #[.slice Ac cl cc, .int .i64 te, .int .i64 th, .int .i64 el] 39)) ((RdS.below (RdS.below hrow (Below.mono (by go_grown : Below wr.heap.size wr _) HK.out.size) (Nat.le_refl _)) (Below.refl _ _) (Nat.le_refl _)).more HKX.out.size) hcl (by rw [← hcl]; exact hcc) (by have := HMS.out; omega))
        rw [ckProg_oneC hn1 hn6 hk1 (Nat.le_trans hcm HMS.out)] at HCC
        clear hd hcm hrow hk1 hcc hcl hbl
        by_cases ht : te = -1
        · subst ht
          have hf2 : decide ((n : Int) ≤ -1) = false := by simp; omega
          by_cases hth : th = -1
          · subst hth
            clear hk2 hk3 hk4
            go_wp2_with (go_at_call 14; (with_reducible refine HCC.out.mono ?_); rintro e w3 ⟨rfl, hb3⟩; have HK3 := Lib.hid (below_via HKX.out hb3); have HO3 := Lib.hid (HOB.out.below hb3 HOB.out.lt); have d1 := HO3.out.cell (j := 1) rfl; have d2 := HO3.out.cell (j := 2) rfl; have d3 := HO3.out.cell (j := 3) rfl; have hl3 := HO3.out.lt; clear hb3)
            go_round
            case rel => exact ⟨k + 1, by omega, by go_num, HK3⟩
            case measure => (simp [intOf]; omega)
          · have hne : (th != -1) = true := by simp [hth]
            have HINS : Hid (decide (0 ≤ th ∧ th < (pn : Int)) = true) := Lib.hid (by simp; omega)
            clear hk2 hk3 hk4 hth
            go_wp2_with (first
              | (go_at_call 14; (with_reducible refine HCC.out.mono ?_); rintro e w3 ⟨rfl, hb3⟩; have HK3 := Lib.hid (below_via HKX.out hb3); have HO3 := Lib.hid (HOB.out.below hb3 HOB.out.lt); have d1 := HO3.out.cell (j := 1) rfl; have d2 := HO3.out.cell (j := 2) rfl; have d3 := HO3.out.cell (j := 3) rfl; have hl3 := HO3.out.lt; clear hb3)
              | (go_at_call 15; (with_reducible refine (inside1_any _ th _ _ _ ?_).mono ?_); (· (exact cell_new (by simp) rfl)); rw [HINS.out]; rintro e w5 ⟨rfl, rfl⟩))
            go_round
            case rel => exact ⟨k + 1, by omega, by go_num, Lib.hid (below_via HK3.out (by go_grown))⟩
            case measure => (simp [intOf]; omega)
        · obtain ⟨tn, rfl⟩ := Int.eq_ofNat_of_zero_le (show 0 ≤ te by omega)
          have htn : tn < n := by omega
          have hf1 : decide ((tn : Int) < -1) = false := decide_eq_false (by omega)
          have hf2 : decide ((n : Int) ≤ (tn : Int)) = false := decide_eq_false (by omega)
          have hf3 : ((tn : Int) == -1) = false := beq_eq_false_iff_ne.2 (by omega)
          have hf4 : decide ((0 : Int) ≤ (tn : Int)) = true := decide_eq_true (by omega)
          have HINS : Hid (decide (0 ≤ th ∧ th < (pn : Int) ∧ 0 ≤ el ∧ el < (pn : Int)) = true) := Lib.hid (by simp; omega)
          clear hk2 hk3 hk4 ht
          go_wp2_with (first
            | (go_at_call 14; (with_reducible refine HCC.out.mono ?_); rintro e w3 ⟨rfl, hb3⟩; have HK3 := Lib.hid (below_via HKX.out hb3); have HO3 := Lib.hid (HOB.out.below hb3 HOB.out.lt); have d1 := HO3.out.cell (j := 1) rfl; have d2 := HO3.out.cell (j := 2) rfl; have d3 := HO3.out.cell (j := 3) rfl; have hl3 := HO3.out.lt; clear hb3)
            | (go_at_call 15; (with_reducible refine (inside2_any _ th el _ _ _ ?_ ?_).mono ?_); (· (exact cell_new (by simp) rfl)); (· (exact cell_new (by simp) rfl)); rw [HINS.out]; rintro e w5 ⟨rfl, rfl⟩))
          go_round
          case rel => exact ⟨k + 1, by omega, by go_num, Lib.hid (below_via HK3.out (by go_grown))⟩
          case measure => (simp [intOf]; omega)
      · have HBW := Lib.hid (below_via HB2.out HK.out)
        have HPW := Lib.hid ((RdP.below HP2.out HK.out (Nat.le_refl _)).more HK.out.size)
        have HHC2 := Lib.hid (HHC.out wr HBW.out)
        by_cases hc2 : ckHave n hv = 0
        · have hvo := valsOk_of hc2
          obtain rfl : n = hn := by rw [← HHL.out]; exact hvo.1.symm
          have HSD : Hid (Calls Try.prog 11 #[.slice A len cap, .slice HA n hcap, .int .i64 200] wr fun e w' => ShTo (exSh l 200 hv) n e w' ∧ Below wr.heap.size wr w') := Lib.hid (by
            have := refShaped_any n 0 hn1 (by omega) _ l (Nat.le_refl _) HFT.out HCS.out A HA cap hcap 200 hv wr (HXX.out wr HBW.out) (HHH.out wr HBW.out) hvo HHI.out (by omega)
            rw [HL.out] at this
            exact this)
          rw [hc2] at HHC2
          cases hy : exSh l 200 hv with
          | none =>
            rw [hy] at HSD
            clear hy hvo hc2
            go_wp2_with (first
              | (go_at_call 10; (with_reducible refine HHC2.out.mono ?_); rintro e w3 ⟨rfl, rfl⟩)
              | (go_at_call 11; (with_reducible refine HSD.out.mono ?_); rintro e w4 ⟨hsh, hb4⟩; obtain ⟨A7, m7, c7, T7, rfl, hT7⟩ := hsh.none; have hT8 : decide (T7 < 0) = true := decide_eq_true hT7; have HB4 := Lib.hid (below_via HBW.out hb4); clear hb4 hsh))
            go_ret
            exact ⟨ret_bool (by simp), HB4.out⟩
          | some y =>
            have HY2 := Lib.hid (exSh_tame HCS.out 200 hv y hvo hy)
            have HYL := Lib.hid HY2.out.2.1
            have htn : decide (((y.1 : Nat) : Int) < 0) = false := by simp
            obtain ⟨wz, hgo⟩ := flat_goes HCS.out hm8 hvo hy
            have HGO : Hid (∀ Z : World, Below wr.heap.size wr Z → Calls Try.prog 16 #[.slice A1 pn c1, .slice HA n hcap, .int .i64 20000] Z fun e w' => GoesTo (some (y.2, wz)) e Z w' ∧ Below Z.heap.size Z w') := Lib.hid fun Z hZ => by
              have := refGoes_big n 20000 A1 HA pn c1 hcap (flSh l) hv Z ((RdP.below HPW.out hZ (Nat.le_refl _)).more hZ.size) (HHH.out Z (below_via HBW.out hZ)) HPN.out hn1 hn6 (by rw [HPN.out]; omega) HBK.out (by have := HMS.out; omega) hvo (by omega)
              rw [hgo] at this
              exact this
            have hnm : n ≤ maxLen := by unfold maxLen; omega
            rw [hy] at HSD
            clear hy hvo hc2 hgo
            go_wp2_with (first
              | (go_at_call 10; (with_reducible refine HHC2.out.mono ?_); rintro e w3 ⟨rfl, rfl⟩)
              | (go_at_call 11; (with_reducible refine HSD.out.mono ?_); rintro e w4 ⟨hsh, hb4⟩; obtain ⟨A7, c7, rfl, hr7, hc7⟩ := hsh.some; have HB4 := Lib.hid hb4; have HR7 := Lib.hid hr7; clear hb4 hsh hr7)
              | (go_at_call 16; (with_reducible refine (HGO.out _ HB4.out).mono ?_); rintro e w5 ⟨hgt, hb5⟩; obtain ⟨A8, A9, c8, c9, rfl, hr8⟩ := GoesTo.yes HYL.out hgt; have HB5 := Lib.hid (below_via HB4.out hb5); have HR75 := Lib.hid (HR7.out.up hb5); have HR8 := Lib.hid hr8; clear hb5 hgt hr8)
              | (go_at_call 12; (with_reducible refine (ints_same A8 A7 n c8 c7 y.2 _ HR8.out HR75.out HYL.out hnm).mono ?_); rintro e w6 ⟨rfl, hb6⟩; have HB6 := Lib.hid (below_via HB5.out hb6); clear hb6))
            go_ret
            exact ⟨ret_bool (by simp), below_via HBW.out HB6.out⟩
        · obtain ⟨c, hce⟩ : ∃ c, ckHave n hv = c := ⟨_, rfl⟩
          rw [hce] at HHC2 hc2
          have hne : (c != 0) = true := by simp [hc2]
          clear hc2 hce
          go_wp2_with (go_at_call 10; (with_reducible refine HHC2.out.mono ?_); rintro e w3 ⟨rfl, rfl⟩)
          go_ret
          exact ⟨ret_bool (by simp), HBW.out⟩
  · have HFB := Lib.hid (flat_bad vars l 0 A len cap w hx hl hin (by rw [← hl]; exact hlen) hc1)
    obtain ⟨c, hce⟩ : ∃ c, ckShape vars l = c := ⟨_, rfl⟩
    rw [hce] at HFB HSC hc1
    rw [hl, hhl]
    have hne : (c != 0) = true := by simp [hc1]
    clear hx hin hlen hh hl hhl hhm hhc hc1 hce
    go_enter Try.func5, Try.ntmps5
    go_wp2_with (first
      | (go_at_call 13; (with_reducible refine HFB.out.mono ?_); rintro e w1 ⟨rfl, hb1⟩; have HB1 := Lib.hid hb1; clear hb1)
      | (go_at_call 8; (with_reducible refine (HSC.out _ HB1.out).mono ?_); rintro e w2 ⟨rfl, hb2⟩; have HB2 := Lib.hid (below_via HB1.out hb2); clear hb2))
    go_ret
    exact ⟨ret_bool (by simp), HB2.out⟩

set_option maxRecDepth 100000 in
theorem lawShapeFlats_lifted (os : Os) (started : os.Started) (H : Type) (enc : TypeId × Value → H) :
    ReturnsInHanded {} Try.checked os 5 .any (Rows.shapeFlatsSpec.pre6 enc Try.prog Try.f5 Rows.shapeFlatsRow.domain false) (Rows.shapeFlatsSpec.post enc Try.prog Try.f5 false true false false) := by
  refine returnsInHanded_of_change_sized (C := Try.checked) Try.own started (by kernel_rfl) Try.func5
    (ChangeSpec.witness6 (enc := enc) (C := Try.checked) false ⟨#[], #[.int .i64 0, .slice none 0 0, .slice none 0 0], []⟩ 8 (by kernel_rfl) (by kernel_rfl) (by kernel_rfl) (by kernel_rfl)) ?_
  intro W base args ds gs before hval0 hW hcnd hsz _
  have hval : ∀ (j : Nat) t v, Try.f5.params[j]? = some t → args[j]? = some v → Value.okWide Try.prog W .any base t v := hval0
  have hW' := hW
  obtain ⟨p, q, hA0, hV, rfl, hfz, hnd⟩ := hW
  have hA : DataW.TrodAll enc Try.prog W 0 (fun _ => true) true Try.f5.params.toList args.toList ds p := hA0
  obtain ⟨hgs, _⟩ := trodVars_none hV
  rw [Try.params5] at hA hval
  obtain ⟨v0, vs0, d0, ds0, p0, q0, hargs, rfl, rfl, h0, r0⟩ := trodAll_cons hA
  obtain ⟨v1, vs1, d1, ds1, p1, q1, rfl, rfl, rfl, h1, r1⟩ := trodAll_cons r0
  obtain ⟨v2, vs2, d2, ds2, p2, q2, rfl, rfl, rfl, h2, r2⟩ := trodAll_cons r1
  obtain ⟨rfl, rfl, rfl⟩ := trodAll_nil r2
  have hargs2 : args = #[v0, v1, v2] := Array.toList_inj.1 hargs
  subst hargs2
  obtain ⟨a0, rfl, _, _, w0⟩ := open_int Try.underlying3 (hval 0 3 v0 rfl rfl) h0
  obtain ⟨A1, c1, l1, rfl, lc1, cm1, x1, g1⟩ := open_shapesA (reach_at hsz (j := 1) (t := 22) (by rw [Try.params5]; rfl) rfl) (hval 1 22 v1 rfl rfl) h1
  have b1 := len_reach Try.underlying22 (hval 1 22 _ rfl rfl) h1 hsz (j := 1) (by rw [Try.params5]; rfl) rfl
  rw [show Try.prog.bytesOf (Try.prog.elem 22) = 88 from by kernel_rfl] at b1
  obtain ⟨A2, c2, l2, rfl, lc2, cm2, x2, r2⟩ := open_intsA (hval 2 26 v2 rfl rfl) h2
  have b2 := len_reach Try.underlying26 (hval 2 26 _ rfl rfl) h2 hsz (j := 2) (by rw [Try.params5]; rfl) rfl
  rw [show Try.prog.bytesOf (Try.prog.elem 26) = 8 from by kernel_rfl] at b2
  refine (lawShapeFlats_any a0 A1 A2 c1 c2 l1 l2 _ x1 g1.1 g1.2 x2 (by omega) lc2).mono fun e W' ⟨he, hb⟩ => ?_
  subst he
  exact ⟨_, rfl, law_post Try.laidOut rfl (by kernel_rfl) Try.underlying4 ⟨rfl, rfl, rfl⟩ (by kernel_rfl) hW' hb⟩

theorem shapeFlats_holds : Rows.ShapeFlatsSaid :=
  OpenClaim.holds_of_wide 5 Try.f5 rfl rfl rfl rfl rfl rfl rfl ⟨rfl, rfl, rfl, rfl, rfl⟩ rfl rfl rfl rfl rfl (by kernel_rfl) Try.func5 (show joinedFacts Try.prog 5 Try.f5 Rows.shapeFlatsSpec Rows.shapeFlatsRow = true from (by unfold joinedFacts; (repeat' (with_reducible refine and_both ?_ ?_)) <;> first | (with_reducible exact may_enter) | ((with_reducible refine make_ok ?_); rfl) | ((with_reducible refine lifts_ok ?_); rfl) | kernel_rfl))
    (of_decide_eq_true (by kernel_rfl)) (by unfold Func.isWrapper; rw [if_neg (of_decide_eq_false (by kernel_rfl))]; exact ⟨rfl, rfl⟩)
    (fun os started H enc _ => lawShapeFlats_lifted os started H enc)

end Go.Proofs.Ytniilhgcgcimgaa
