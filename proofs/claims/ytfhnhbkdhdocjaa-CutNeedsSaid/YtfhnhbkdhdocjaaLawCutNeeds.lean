/-
  What is needed is told as the document says (T1): codemasonlaw.CutNeeds returns true and leaves its arguments alone. No condition.
-/
import Derived.Test.YtfhnhbkdhdocjaaCutIs
import Derived.Test.YtfhnhbkdhdocjaaCutNeeded
import Derived.BigQuiet
import Derived.Test.YtfhnhbkdhdocjaaCut
namespace Go.Proofs.Ytfhnhbkdhdocjaa
open Go.RowKit Go.ChangeShapes Go.WideShapes Go.ChangeAt Go.Deep
set_option linter.unusedSimpArgs false
set_option linter.unusedVariables false
set_option maxRecDepth 100000

set_option maxHeartbeats 8000000 in
theorem lawCutNeeds_any (K : CutIs) (vars : Int) (A : Option Addr) (cap want : Nat) (p : List Bk) (w : World) (hx : RdP w w.heap.size A p) (hm : p.length ≤ maxLen) (hin : ∀ b ∈ p, InBk b) (hw : want < 4294967296) :
    Calls Try.prog 12 #[.int .i64 vars, .slice A p.length cap, .int .u32 (want : Nat)] w fun e w' => e = .returned (.bool true) ∧ Below w.heap.size w w' := by
  obtain ⟨len, hl⟩ : ∃ len, p.length = len := ⟨_, rfl⟩
  have HL := Lib.hid hl
  rw [hl] at hm ⊢
  obtain ⟨T, hT⟩ := stops_bool (nxP p)
  have HWC := Lib.hid (fun (Z : World) (hZ : Below w.heap.size w Z) => cutCode_any vars want A len cap p T Z ((hx.below hZ (Nat.le_refl _)).more hZ.size) hl hm hin hw hT)
  by_cases hc : ckCut vars p want T = 0
  · obtain ⟨rfl, n, rfl, hn1, hn6, hc1, hc2⟩ := ckCut_ok hc
    obtain ⟨_, _, b3, b4, _⟩ := ckProg_bd hc1
    rw [hl] at b3 b4
    rw [hc] at HWC
    have HC1 := Lib.hid hc1
    have HTR := Lib.hid (K.needs n want A len cap p w hx hl hc1 hc2 (hT.1 rfl))
    clear hc hc1 hc2 hin hT
    go_enter Try.func12, Try.ntmps12
    go_wp2_with fail
    refine HTR.out.mono ?_
    rintro e w1 ⟨A1, c1, t, ms, rfl, hnd, hx1, hb1⟩
    go_wp2_with fail
    refine (HWC.out _ hb1).mono ?_
    rintro e w2 ⟨rfl, hb2⟩
    have hb02 := hb1.trans (hb2.mono hb1.size)
    have hx2 := (hx.below hb02 (Nat.le_refl _)).more hb02.size
    go_wp2_with fail
    refine (refNeeded_any n want A len cap p _ hx2 HL.out HC1.out hw).mono ?_
    rintro e w3 ⟨A3, c3, t3, ms3, rfl, hns3, hnd3, hx3, hb3⟩
    obtain ⟨rfl, rfl⟩ := hnd.one (hns3.w (by rw [hl]; exact b4) hnd3)
    rw [hl]
    have HMS : Hid (ms.length = len) := Lib.hid (by rw [hnd.sl, hl])
    have HRL := Lib.hid (hnd.rl)
    have H20 : Hid (∀ (i : Nat) (r : List Bool), ms[i]? = some r → r.length ≤ 20) := Lib.hid fun i r hr => by
      have hi := (List.getElem?_eq_some_iff.1 hr).1
      rw [hnd.sl] at hi
      have hb := List.getElem?_eq_getElem hi
      rw [hnd.rl i _ r hb hr]
      have := manyS_le hb
      have := (ckProg_bd HC1.out).2.2.2.2.1
      omega
    have hb03 := hb02.trans (hb3.mono hb02.size)
    have hb13 := hb2.trans (hb3.mono hb2.size)
    have HX1 := Lib.hid (fun (Z : World) (hZ : Below w3.heap.size w3 Z) => RdM2.below hx1 (below_via hb13 hZ) (Nat.le_refl _))
    have HX3 := Lib.hid (fun (Z : World) (hZ : Below w3.heap.size w3 Z) => RdM2.below hx3 hZ (Nat.le_refl _))
    have HB03 := Lib.hid hb03
    have hs1 := hb13.size
    have HS1 := Lib.hid hs1
    clear hnd hns3 hnd3 hx1 hx3 hx2 hl hb13 hb1 hb2 hb3 hb02 hb03 hs1
    go_wp2_with fail
    go_loopw [13] (fun z wr => ∃ i : Nat, i ≤ len ∧ z = .int .i64 i ∧ Hid (Below w3.heap.size w3 wr)) (fun z _ => len - (intOf z).toNat)
    case atStart => exact ⟨0, Nat.zero_le _, rfl, Lib.hid (Below.refl _ _)⟩
    case round =>
      obtain ⟨i, hi, rfl, HB⟩ := hrel
      by_cases hlt : i < len
      · obtain ⟨ad, row, Ar, cr, rfl, hbl, hrow, hrc, hrd⟩ := (HX1.out wr HB.out).at_ (k := i) (by rw [HMS.out]; exact hlt)
        obtain ⟨ad3, row3, Ar3, cr3, rfl, hbl3, hrow3, hrc3, hrd3⟩ := (HX3.out wr HB.out).at_ (k := i) (by rw [HMS.out]; exact hlt)
        have hre : row3 = row := by rw [hrow] at hrow3; injection hrow3 with h; exact h.symm
        subst hre
        have h20 := H20.out i row3 hrow
        obtain ⟨rl, hrl⟩ : ∃ rl, row3.length = rl := ⟨_, rfl⟩
        rw [hrl] at hrc hrc3 h20
        have HRL2 := Lib.hid hrl
        have hsz := HB.out.size
        have hs1 := HS1.out
        have hblr : (ad.add i).block < wr.heap.size := by omega
        have hbl3r : (ad3.add i).block < wr.heap.size := by omega
        have HCE := Lib.hid hrc
        have HCE3 := Lib.hid hrc3
        have HRD := Lib.hid hrd
        have HRD3 := Lib.hid hrd3
        obtain ⟨wo, rfl⟩ : ∃ wo : World, wo = wr := ⟨_, rfl⟩
        clear hrow hrow3 hrl hrd hrd3
        go_wp2_with fail
        go_quiet (fail)
        go_wp2_with fail
        go_loopw [14] (fun z wr => ∃ k : Nat, k ≤ rl ∧ z = .int .i64 k ∧ Hid (Below wo.heap.size wo wr)) (fun z _ => rl - (intOf z).toNat)
        case atStart => exact ⟨0, Nat.zero_le _, rfl, Lib.hid (below_drewNL (Below.refl _ _) _)⟩
        case round =>
          obtain ⟨k, hk, rfl, HBI⟩ := hrel
          have hq := (HBI.out.cell (p := ad.add i) hblr).trans HCE.out
          have hq3 := (HBI.out.cell (p := ad3.add i) hbl3r).trans HCE3.out
          by_cases hkt : k < rl
          · obtain ⟨ra, mk, rfl, hb5, hm5, hc5⟩ := (RdBo.below HRD.out HBI.out (by omega)).at_ (k := k) (by rw [HRL2.out]; exact hkt)
            obtain ⟨ra3, mk3, rfl, hb6, hm6, hc6⟩ := (RdBo.below HRD3.out HBI.out (by omega)).at_ (k := k) (by rw [HRL2.out]; exact hkt)
            have hme : mk3 = mk := by rw [hm5] at hm6; injection hm6 with h; exact h.symm
            subst hme
            clear hm5 hm6
            cases mk3
            · go_wp2_with fail
              go_quiet (fail)
              go_wp2_with fail
              go_round
              case rel => exact ⟨k + 1, by omega, by go_num, Lib.hid (below_drewNL HBI.out _)⟩
              case measure => (simp [intOf]; omega)
            · go_wp2_with fail
              go_quiet (fail)
              go_wp2_with fail
              go_round
              case rel => exact ⟨k + 1, by omega, by go_num, Lib.hid (below_drewNL HBI.out _)⟩
              case measure => (simp [intOf]; omega)
          · go_wp2
            go_round
            case rel => exact ⟨i + 1, by omega, by go_num, Lib.hid (below_via HB.out HBI.out)⟩
            case measure => (simp [intOf]; omega)
      · go_wp2
        go_ret
        exact ⟨rfl, below_via HB03.out HB.out⟩
  · have HIB := Lib.hid (K.needsBad vars want A len cap p T w hx hl hm hin hw hT hc)
    obtain ⟨c, hce⟩ : ∃ c, ckCut vars p want T = c := ⟨_, rfl⟩
    rw [hce] at HIB HWC hc
    have hne : (c != 0) = true := by simp [hc]
    clear hc hl hin hce hT
    go_enter Try.func12, Try.ntmps12
    go_wp2_with fail
    refine HIB.out.mono ?_
    rintro e w1 ⟨A1, c1, rfl, hb1⟩
    go_wp2_with fail
    refine (HWC.out _ hb1).mono ?_
    rintro e w2 ⟨rfl, hb2⟩
    go_wp2
    go_ret
    exact ⟨ret_bool (by simp), hb1.trans (hb2.mono hb1.size)⟩

theorem lawCutNeeds_int (K : CutIs) (vars : Int) (A : Option Addr) (cap : Nat) (want : Int) (p : List Bk) (w : World) (hx : RdP w w.heap.size A p) (hm : p.length ≤ maxLen) (hin : ∀ b ∈ p, InBk b) (hw : (Lit.int .u32 want).wf = true) :
    Calls Try.prog 12 #[.int .i64 vars, .slice A p.length cap, .int .u32 want] w fun e w' => e = .returned (.bool true) ∧ Below w.heap.size w w' := by
  obtain ⟨n, rfl, hn⟩ := u32_lit hw
  exact lawCutNeeds_any K vars A cap n p w hx hm hin hn

set_option maxRecDepth 100000 in
theorem lawCutNeeds_lifted (os : Os) (started : os.Started) (H : Type) (enc : TypeId × Value → H) :
    ReturnsInHanded {} Try.checked os 12 .any (Rows.cutNeedsSpec.pre6 enc Try.prog Try.f12 Rows.cutNeedsRow.domain false) (Rows.cutNeedsSpec.post enc Try.prog Try.f12 false true false false) := by
  refine returnsInHanded_of_change_sized (C := Try.checked) Try.own started (by kernel_rfl) Try.func12
    (ChangeSpec.witness6 (enc := enc) (C := Try.checked) false ⟨#[], #[.int .i64 0, .slice none 0 0, .int .u32 0], []⟩ 8 (by kernel_rfl) (by kernel_rfl) (by kernel_rfl) (by kernel_rfl)) ?_
  intro W base args ds gs before hval0 hW hcnd hsz _
  have hval : ∀ (j : Nat) t v, Try.f12.params[j]? = some t → args[j]? = some v → Value.okWide Try.prog W .any base t v := hval0
  have hW' := hW
  obtain ⟨p, q, hA0, hV, rfl, hfz, hnd⟩ := hW
  have hA : DataW.TrodAll enc Try.prog W 0 (fun _ => true) true Try.f12.params.toList args.toList ds p := hA0
  obtain ⟨hgs, _⟩ := trodVars_none hV
  rw [Try.params12] at hA hval
  obtain ⟨v0, vs0, d0, ds0, p0, q0, hargs, rfl, rfl, h0, r0⟩ := trodAll_cons hA
  obtain ⟨v1, vs1, d1, ds1, p1, q1, rfl, rfl, rfl, h1, r1⟩ := trodAll_cons r0
  obtain ⟨v2, vs2, d2, ds2, p2, q2, rfl, rfl, rfl, h2, r2⟩ := trodAll_cons r1
  obtain ⟨rfl, rfl, rfl⟩ := trodAll_nil r2
  have hargs2 : args = #[v0, v1, v2] := Array.toList_inj.1 hargs
  subst hargs2
  obtain ⟨a0, rfl, _, _, w0⟩ := open_int Try.underlying3 (hval 0 3 v0 rfl rfl) h0
  obtain ⟨A1, c1, l1, rfl, lc1, cm1, x1, g1⟩ := open_progA (reach_at hsz (j := 1) (t := 22) (by rw [Try.params12]; rfl) rfl) (hval 1 22 v1 rfl rfl) h1
  have b1 := len_reach Try.underlying22 (hval 1 22 _ rfl rfl) h1 hsz (j := 1) (by rw [Try.params12]; rfl) rfl
  rw [show Try.prog.bytesOf (Try.prog.elem 22) = 48 from by kernel_rfl] at b1
  obtain ⟨a2, rfl, _, _, w2⟩ := open_int Try.underlying23 (hval 2 23 v2 rfl rfl) h2
  refine (lawCutNeeds_int cutIs a0 A1 c1 a2 l1 _ x1 (by omega) g1 w2).mono fun e W' ⟨he, hb⟩ => ?_
  subst he
  exact ⟨_, rfl, law_post Try.laidOut rfl (by kernel_rfl) Try.underlying4 ⟨rfl, rfl, rfl⟩ (by kernel_rfl) hW' hb⟩

theorem cutNeeds_holds : Rows.CutNeedsSaid :=
  OpenClaim.holds_of_wide 12 Try.f12 rfl rfl rfl rfl rfl rfl rfl ⟨rfl, rfl, rfl, rfl, rfl⟩ rfl rfl rfl rfl rfl (by kernel_rfl) Try.func12 (show joinedFacts Try.prog 12 Try.f12 Rows.cutNeedsSpec Rows.cutNeedsRow = true from (by unfold joinedFacts; (repeat' (with_reducible refine and_both ?_ ?_)) <;> first | (with_reducible exact may_enter) | ((with_reducible refine make_ok ?_); rfl) | ((with_reducible refine lifts_ok ?_); rfl) | kernel_rfl))
    (of_decide_eq_true (by kernel_rfl)) (by unfold Func.isWrapper; rw [if_neg (of_decide_eq_false (by kernel_rfl))]; exact ⟨rfl, rfl⟩)
    (fun os started H enc _ => lawCutNeeds_lifted os started H enc)

end Go.Proofs.Ytfhnhbkdhdocjaa
