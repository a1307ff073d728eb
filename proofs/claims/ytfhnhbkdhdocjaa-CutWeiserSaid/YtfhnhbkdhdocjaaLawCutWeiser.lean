/-
  WEISER (T2): a program that stops, cut, stops with the same in what is asked for: codemasonkeep.CutWeiser returns true and leaves its arguments alone. No condition.
-/
import Derived.Test.YtfhnhbkdhdocjaaCutIs
import Derived.Test.YtfhnhbkdhdocjaaMCut
import Derived.Test.YtfhnhbkdhdocjaaMBlkR
import Derived.Test.YtfhnhbkdhdocjaaCut
import Derived.Test.YtfhnhbkdhdocjaaMBlock
namespace Go.Proofs.Ytfhnhbkdhdocjaa
open Go.RowKit Go.ChangeShapes Go.WideShapes Go.ChangeAt Go.Deep
set_option linter.unusedSimpArgs false
set_option linter.unusedVariables false
set_option maxRecDepth 100000

theorem SlP.inBk {n : Nat} {p q : List Bk} {MS : Nat → Nat → Prop} {MT : Nat → Prop} (h : SlP p MS MT q) (hin : ∀ b ∈ p, InBk b) (hc : ckProg n q = 0) : ∀ b ∈ q, InBk b := fun b' hb => by
  obtain ⟨i, hi, rfl⟩ := List.getElem_of_mem hb
  have hq := List.getElem?_eq_getElem hi
  have hip : i < p.length := by rw [← h.len]; exact hi
  have hp := List.getElem?_eq_getElem hip
  obtain ⟨b2, e, hs⟩ := h.blk i _ hp
  rw [hq] at e
  injection e with e
  obtain ⟨g1, g2, g3, g4⟩ := hin _ (List.mem_of_getElem? hp)
  obtain ⟨c1, c2, c3, c4, c5, _⟩ := ckProg_bd hc
  have hm := manyS_le hq
  have hk := ckProg_at hc hq
  rw [e] at hm hk ⊢
  obtain ⟨_, k2, k3, k4⟩ := hk
  refine ⟨by omega, ?_, ?_, ?_⟩
  · unfold inI at *; rcases k2 with k2 | k2 <;> omega
  · unfold inI at *; rcases k3 with k3 | k3 <;> omega
  · by_cases hkp : MT i
    · rw [(hs.keep hkp).2.2]; exact g4
    · rw [(hs.cut hkp).2.1]
      unfold inI
      omega

/-- of package block: what Run does, where it may not be called -/
structure GoBad : Prop where
  run : ∀ (vars : Int) (A HA : Option Addr) (len cap hl hcap : Nat) (p : List Bk) (hv : List Int) (w : World), RdP w w.heap.size A p → RdI w w.heap.size HA hv → p.length = len → len ≤ maxLen → (∀ b ∈ p, InBk b) → hv.length = hl → hl ≤ maxLen → ckGo vars p hv ≠ 0 →
    Calls Try.prog 27 #[.int .i64 vars, .slice A len cap, .slice HA hl hcap] w fun e w' => ∃ A1 A2 c1 c2, e = .returned (.tuple #[.slice A1 0 c1, .slice A2 0 c2, .int .i64 (ckGo vars p hv)]) ∧ Below w.heap.size w w'

set_option maxHeartbeats 8000000 in
theorem lawCutWeiser_any (K : CutIs) (K2 : GoIs) (K3 : GoBad) (vars : Int) (A HA : Option Addr) (cap hcap want : Nat) (p : List Bk) (hv : List Int) (w : World) (hx : RdP w w.heap.size A p) (hh : RdI w w.heap.size HA hv) (hm : p.length ≤ maxLen) (hin : ∀ b ∈ p, InBk b) (hw : want < 4294967296) (hhm : hv.length ≤ maxLen) :
    Calls Try.prog 14 #[.int .i64 vars, .slice A p.length cap, .int .u32 (want : Nat), .slice HA hv.length hcap] w fun e w' => e = .returned (.bool true) ∧ Below w.heap.size w w' := by
  obtain ⟨len, hl⟩ : ∃ len, p.length = len := ⟨_, rfl⟩
  have HL := Lib.hid hl
  rw [hl] at hm ⊢
  obtain ⟨hn', hhn'⟩ : ∃ k, hv.length = k := ⟨_, rfl⟩
  have HHN := Lib.hid hhn'
  rw [hhn'] at hhm ⊢
  obtain ⟨T, hT⟩ := stops_bool (nxP p)
  have HRP := Lib.hid (fun (Z : World) (hZ : Below w.heap.size w Z) => (RdP.below hx hZ (Nat.le_refl _)).more hZ.size)
  have HRH := Lib.hid (fun (Z : World) (hZ : Below w.heap.size w Z) => (RdI.below hh hZ (Nat.le_refl _)).more hZ.size)
  by_cases hc : ckCut vars p want T = 0
  · obtain ⟨rfl, n, rfl, hn1, hn6, hc1, hc2⟩ := ckCut_ok hc
    obtain ⟨_, _, b3, b4, _⟩ := ckProg_bd hc1
    rw [hl] at b3 b4
    have HC1 := Lib.hid hc1
    have HST := Lib.hid (hT.1 rfl)
    have HIN := Lib.hid hin
    have HSL := Lib.hid (K.slice n want A len cap p w hx hl hc1 hc2 (hT.1 rfl))
    have HPC := Lib.hid (fun (Z : World) (hZ : Below w.heap.size w Z) => refProgCheck_any n A len cap p Z (HRP.out Z hZ) hl hm hin)
    have HBAD := Lib.hid (fun (Z : World) (hZ : Below w.heap.size w Z) => K3.run n A HA len cap hn' hcap p hv Z (HRP.out Z hZ) (HRH.out Z hZ) hl hm hin hhn' hhm)
    clear hc hc1 hc2 hin hT
    go_enter Try.func14, Try.ntmps14
    go_wp2_with fail
    refine HSL.out.mono ?_
    rintro e w1 ⟨A1, c1, q, MS, MT, rfl, hnd, hsl, hx1, hb1⟩
    have HQ := Lib.hid (hsl.ok HC1.out)
    have HQL : Hid (q.length = len) := Lib.hid (by rw [hsl.len, HL.out])
    have HQI := Lib.hid (hsl.inBk HIN.out HQ.out)
    have HGO := Lib.hid (fun x l (h1 : hv.length = n) (h2 : goP p 200 0 hv = some (x, l)) => weiser_go HC1.out hnd.cl HST.out hsl h1 h2)
    have HX1 := Lib.hid (fun (Z : World) (hZ : Below w1.heap.size w1 Z) => (RdP.below hx1 hZ (Nat.le_refl _)).more hZ.size)
    have HPC2 := Lib.hid (fun (Z : World) (hZ : Below w1.heap.size w1 Z) => refProgCheck_any n A1 len c1 q Z (HX1.out Z hZ) HQL.out hm HQI.out)
    clear hnd hsl hx1
    go_wp2_with (first
      | (go_at_call 25; (with_reducible refine (HPC.out _ hb1).mono ?_); rw [HC1.out]; rintro e w2 ⟨rfl, hb2⟩)
      | (go_at_call 25; (with_reducible refine (HPC2.out _ hb2).mono ?_); rw [HQ.out]; rintro e w3 ⟨rfl, hb3⟩))
    have hb13 := below_via hb2 hb3
    have hb03 := below_via hb1 hb13
    by_cases hg : ckHave n hv = 0
    · have hvo := valsOk_of hg
      have HVO := Lib.hid hvo
      have hnn : hn' = n := by rw [← hhn']; exact hvo.1
      subst hnn
      have HW1 := Lib.hid (fun x l (h : goP p 200 0 hv = some (x, l)) => goP_way HC1.out 200 0 hv x l (by have := (ckProg_bd HC1.out).2.2.1; omega) hvo h)
      refine (K2.run hn' A HA len cap hcap p hv _ (HRP.out _ hb03) (HRH.out _ hb03) HL.out HC1.out HVO.out).mono ?_
      rintro e w5 ⟨hrt, hb5⟩
      have hb15 := below_via hb13 hb5
      have hb05 := below_via hb03 hb5
      rcases hrt with ⟨hr, B1, B2, d1, d2, rfl⟩ | ⟨x, l, B1, B2, d1, d2, hr, rfl, hr1, hr2⟩
      · clear hr hg hvo hhn' hl
        go_wp2
        go_ret
        exact ⟨ret_bool (by simp), hb05⟩
      · obtain ⟨y, l', g1, g2, g3, g4, g5⟩ := HGO.out x l HVO.out.1 hr
        obtain ⟨r0, hlr, hrw, hll, hxo⟩ := HW1.out x l hr
        have HAG := Lib.hid g5
        have HXL := Lib.hid g3
        have HYL := Lib.hid g4
        have HG1 := Lib.hid g1
        rw [g3]
        clear hr hlr hrw hxo hg hvo hhn' hl g1 g3 g4 g5
        go_wp2_with fail
        refine (K2.run hn' A1 HA len c1 hcap q hv _ (HX1.out _ hb15) (HRH.out _ hb05) HQL.out HQ.out HVO.out).mono ?_
        rintro e w6 ⟨hrt, hb6⟩
        have hb06 := below_via hb05 hb6
        have hr16 := (hr1.below hb6 (Nat.le_refl _)).more hb6.size
        rcases hrt with ⟨hr', _⟩ | ⟨y', l2, B3, B4, d3, d4, hr', rfl, hr3, hr4⟩
        · rw [HG1.out] at hr'; cases hr'
        · rw [HG1.out] at hr'
          injection hr' with hr'
          injection hr' with hy hl2
          subst hy hl2
          have hle : decide ((l'.length : Int) ≤ (l.length : Int)) = true := by simp; omega
          rw [HYL.out]
          go_wp2_with (go_at_call 29; (with_reducible refine (alike_any B1 B3 hn' d1 d3 want x y _ hr16 hr3 HXL.out HYL.out hn6 hw HAG.out).mono ?_); rintro e w8 ⟨rfl, hb8⟩)
          go_ret
          exact ⟨ret_bool (by simp), below_via hb06 hb8⟩
    · have hgo : ckGo n p hv ≠ 0 := fun h => hg (ckGo_ok h).2
      refine (HBAD.out _ hb03 hgo).mono ?_
      rintro e w5 ⟨B1, B2, d1, d2, rfl, hb5⟩
      have hb05 := below_via hb03 hb5
      obtain ⟨c, hce⟩ : ∃ c, ckGo n p hv = c := ⟨_, rfl⟩
      rw [hce] at hgo ⊢
      have hne : (c != 0) = true := by simp [hgo]
      clear hg hgo hce hhn' hl
      go_wp2
      go_ret
      exact ⟨ret_bool (by simp), hb05⟩
  · have HIB := Lib.hid (K.sliceBad vars want A len cap p T w hx hl hm hin hw hT hc)
    obtain ⟨c, hce⟩ : ∃ c, ckCut vars p want T = c := ⟨_, rfl⟩
    rw [hce] at HIB hc
    have hne : (c != 0) = true := by simp [hc]
    clear hc hl hin hce hT hhn'
    go_enter Try.func14, Try.ntmps14
    go_wp2_with fail
    refine HIB.out.mono ?_
    rintro e w1 ⟨A1, c1, rfl, hb1⟩
    go_wp2
    go_ret
    exact ⟨ret_bool (by simp), hb1⟩

theorem lawCutWeiser_int (K : CutIs) (K2 : GoIs) (K3 : GoBad) (vars : Int) (A HA : Option Addr) (cap hcap : Nat) (want : Int) (p : List Bk) (hv : List Int) (w : World) (hx : RdP w w.heap.size A p) (hh : RdI w w.heap.size HA hv) (hm : p.length ≤ maxLen) (hin : ∀ b ∈ p, InBk b) (hw : (Lit.int .u32 want).wf = true) (hhm : hv.length ≤ maxLen) :
    Calls Try.prog 14 #[.int .i64 vars, .slice A p.length cap, .int .u32 want, .slice HA hv.length hcap] w fun e w' => e = .returned (.bool true) ∧ Below w.heap.size w w' := by
  obtain ⟨n, rfl, hn⟩ := u32_lit hw
  exact lawCutWeiser_any K K2 K3 vars A HA cap hcap n p hv w hx hh hm hin hn hhm

theorem goBad : GoBad := ⟨fun vars A HA len cap hl hcap p hv w hx hh hpl hm hin hhl hhm hc => blockRun_bad vars A HA len cap hl hcap p hv w hx hh hpl hm hin hhl hhm hc⟩

set_option maxRecDepth 100000 in
theorem lawCutWeiser_lifted (os : Os) (started : os.Started) (H : Type) (enc : TypeId × Value → H) :
    ReturnsInHanded {} Try.checked os 14 .any (Rows.cutWeiserSpec.pre6 enc Try.prog Try.f14 Rows.cutWeiserRow.domain false) (Rows.cutWeiserSpec.post enc Try.prog Try.f14 false true false false) := by
  refine returnsInHanded_of_change_sized (C := Try.checked) Try.own started (by kernel_rfl) Try.func14
    (ChangeSpec.witness6 (enc := enc) (C := Try.checked) false ⟨#[], #[.int .i64 0, .slice none 0 0, .int .u32 0, .slice none 0 0], []⟩ 8 (by kernel_rfl) (by kernel_rfl) (by kernel_rfl) (by kernel_rfl)) ?_
  intro W base args ds gs before hval0 hW hcnd hsz _
  have hval : ∀ (j : Nat) t v, Try.f14.params[j]? = some t → args[j]? = some v → Value.okWide Try.prog W .any base t v := hval0
  have hW' := hW
  obtain ⟨p, q, hA0, hV, rfl, hfz, hnd⟩ := hW
  have hA : DataW.TrodAll enc Try.prog W 0 (fun _ => true) true Try.f14.params.toList args.toList ds p := hA0
  obtain ⟨hgs, _⟩ := trodVars_none hV
  rw [Try.params14] at hA hval
  obtain ⟨v0, vs0, d0, ds0, p0, q0, hargs, rfl, rfl, h0, r0⟩ := trodAll_cons hA
  obtain ⟨v1, vs1, d1, ds1, p1, q1, rfl, rfl, rfl, h1, r1⟩ := trodAll_cons r0
  obtain ⟨v2, vs2, d2, ds2, p2, q2, rfl, rfl, rfl, h2, r2⟩ := trodAll_cons r1
  obtain ⟨v3, vs3, d3, ds3, p3, q3, rfl, rfl, rfl, h3, r3⟩ := trodAll_cons r2
  obtain ⟨rfl, rfl, rfl⟩ := trodAll_nil r3
  have hargs2 : args = #[v0, v1, v2, v3] := Array.toList_inj.1 hargs
  subst hargs2
  obtain ⟨a0, rfl, _, _, w0⟩ := open_int Try.underlying3 (hval 0 3 v0 rfl rfl) h0
  obtain ⟨A1, c1, l1, rfl, lc1, cm1, x1, g1⟩ := open_progA (reach_at hsz (j := 1) (t := 22) (by rw [Try.params14]; rfl) rfl) (hval 1 22 v1 rfl rfl) h1
  have b1 := len_reach Try.underlying22 (hval 1 22 _ rfl rfl) h1 hsz (j := 1) (by rw [Try.params14]; rfl) rfl
  rw [show Try.prog.bytesOf (Try.prog.elem 22) = 48 from by kernel_rfl] at b1
  obtain ⟨a2, rfl, _, _, w2⟩ := open_int Try.underlying23 (hval 2 23 v2 rfl rfl) h2
  obtain ⟨A3, c3, l3, rfl, lc3, cm3, x3, r3⟩ := open_intsA (hval 3 39 v3 rfl rfl) h3
  have b3 := len_reach Try.underlying39 (hval 3 39 _ rfl rfl) h3 hsz (j := 3) (by rw [Try.params14]; rfl) rfl
  rw [show Try.prog.bytesOf (Try.prog.elem 39) = 8 from by kernel_rfl] at b3
  refine (lawCutWeiser_int cutIs goIs goBad a0 A1 A3 c1 c3 a2 l1 l3 _ x1 x3 (by omega) g1 w2 (by omega)).mono fun e W' ⟨he, hb⟩ => ?_
  subst he
  exact ⟨_, rfl, law_post Try.laidOut rfl (by kernel_rfl) Try.underlying4 ⟨rfl, rfl, rfl⟩ (by kernel_rfl) hW' hb⟩

theorem cutWeiser_holds : Rows.CutWeiserSaid :=
  OpenClaim.holds_of_wide 14 Try.f14 rfl rfl rfl rfl rfl rfl rfl ⟨rfl, rfl, rfl, rfl, rfl⟩ rfl rfl rfl rfl rfl (by kernel_rfl) Try.func14 (show joinedFacts Try.prog 14 Try.f14 Rows.cutWeiserSpec Rows.cutWeiserRow = true from (by unfold joinedFacts; (repeat' (with_reducible refine and_both ?_ ?_)) <;> first | (with_reducible exact may_enter) | ((with_reducible refine make_ok ?_); rfl) | ((with_reducible refine lifts_ok ?_); rfl) | kernel_rfl))
    (of_decide_eq_true (by kernel_rfl)) (by unfold Func.isWrapper; rw [if_neg (of_decide_eq_false (by kernel_rfl))]; exact ⟨rfl, rfl⟩)
    (fun os started H enc _ => lawCutWeiser_lifted os started H enc)

end Go.Proofs.Ytfhnhbkdhdocjaa
