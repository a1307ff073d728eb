/-
  Which variables are live ahead of each block is told as the document says (K1): codemasonlaw.LiveTells returns true and leaves its arguments alone. No condition.
-/
import Derived.Test.YtfhnhbkdhdocjaaLawLive
import Derived.Test.YtfhnhbkdhdocjaaLiveTrimC
import Derived.Test.YtfhnhbkdhdocjaaLiveLive
namespace Go.Proofs.Ytfhnhbkdhdocjaa
open Go.RowKit Go.ChangeShapes Go.WideShapes Go.ChangeAt Go.Deep
set_option linter.unusedSimpArgs false
set_option linter.unusedVariables false
set_option maxRecDepth 100000

set_option maxHeartbeats 8000000 in
theorem lawLiveTells_any (K : LiveIs) (vars : Int) (A : Option Addr) (cap want : Nat) (p : List Bk) (w : World) (hx : RdP w w.heap.size A p) (hm : p.length ≤ maxLen) (hin : ∀ b ∈ p, InBk b) (hw : want < 4294967296) :
    Calls Try.prog 3 #[.int .i64 vars, .slice A p.length cap, .int .u32 (want : Nat)] w fun e w' => e = .returned (.bool true) ∧ Below w.heap.size w w' := by
  obtain ⟨len, hl⟩ : ∃ len, p.length = len := ⟨_, rfl⟩
  have HL := Lib.hid hl
  rw [hl] at hm ⊢
  have HWC := Lib.hid (fun (Z : World) (hZ : Below w.heap.size w Z) => wantCode_any vars want A len cap p Z ((hx.below hZ (Nat.le_refl _)).more hZ.size) hl hm hin hw)
  by_cases hc : ckWant vars p want = 0
  · obtain ⟨n, rfl, hn1, hn6, hc1, hc2⟩ := ckWant_ok hc
    obtain ⟨_, _, b3, b4, _⟩ := ckProg_bd hc1
    rw [hl] at b3 b4
    rw [hc] at HWC
    have HC1 := Lib.hid hc1
    have HIN := Lib.hid (K.in_ n want A len cap p w hx hl hc1 hc2)
    clear hc hc1 hc2 hl hin
    go_enter Try.func3, Try.ntmps3
    go_wp2_with fail
    refine HIN.out.mono ?_
    rintro e w1 ⟨A1, c1, L, rfl, hx1, hw1, hb1⟩
    go_wp2_with fail
    refine (HWC.out _ hb1).mono ?_
    rintro e w2 ⟨rfl, hb2⟩
    have hb02 := hb1.trans (hb2.mono hb1.size)
    have hx2 := (hx.below hb02 (Nat.le_refl _)).more hb02.size
    have hx12 := (hx1.below hb2 (Nat.le_refl _)).more hb2.size
    have HW := Lib.hid hw1
    clear hx1 hw1
    go_wp2
    go_loopw [10] (fun z wr => ∃ i : Nat, i ≤ len ∧ z = .int .i64 i ∧ Below w2.heap.size w2 wr) (fun z _ => len - (intOf z).toNat)
    case atStart => exact ⟨0, Nat.zero_le _, rfl, Below.refl _ _⟩
    case round =>
      obtain ⟨i, hi, rfl, hbr⟩ := hrel
      have hsz := hbr.size
      by_cases hlt : i < len
      · obtain ⟨wo, rfl⟩ : ∃ wo : World, wo = wr := ⟨_, rfl⟩
        obtain ⟨a1, W, rfl, hbl1, hd1, _⟩ := (hx12.below hbr (Nat.le_refl _)).at_ (k := i) (by rw [HW.out.len, HL.out]; exact hlt)
        have hWn := HW.out.lt i W hd1
        have hW32 := want_small hWn hn6
        have HBIT := Lib.hid (HW.out.bit i W hd1)
        have HF := Lib.hid (decide_eq_true hWn)
        have HD1 := Lib.hid hd1
        have hspin : SpIn p (i, 0) := ⟨_, List.getElem?_eq_getElem (by rw [HL.out]; exact hlt), Nat.zero_le _⟩
        have HSP := Lib.hid hspin
        clear hd1 hWn hspin
        go_wp2
        go_loopw [11] (fun z wr => ∃ v : Nat, v ≤ n ∧ z = .int .i64 v ∧ Below w2.heap.size w2 wr) (fun z _ => n - (intOf z).toNat)
        case atStart => exact ⟨0, Nat.zero_le _, rfl, hbr⟩
        case round =>
          obtain ⟨v, hv, rfl, hbv⟩ := hrel
          have hszv := hbv.size
          obtain ⟨a1', W', e1, hbl1', hd1', hcW⟩ := (hx12.below hbv (Nat.le_refl _)).at_ (k := i) (by rw [HW.out.len, HL.out]; exact hlt)
          injection e1 with e1
          subst e1
          rw [HD1.out] at hd1'
          injection hd1' with hd1'
          subst hd1'
          by_cases hvt : v < n
          · have hbb := bitB_of (W := W) (v := v) (by omega)
            obtain ⟨tb, htb⟩ : ∃ tb, W.testBit v = tb := ⟨_, rfl⟩
            rw [htb] at hbb
            have HBB := Lib.hid hbb
            have HLI : Hid (∀ Z : World, Below w2.heap.size w2 Z → Calls Try.prog 20 #[.slice A len cap, .int .u32 (want : Nat), .int .i64 (v : Int), .agg #[.int .i64 (i : Int), .int .i64 0]] Z fun e w' => e = .returned (.bool tb) ∧ Below Z.heap.size Z w') := Lib.hid fun Z hZ =>
              (refLive_any n want v A len cap p i 0 Z ((hx2.below hZ (Nat.le_refl _)).more hZ.size) HL.out HC1.out hw hvt HSP.out).mono fun e w' ⟨b, h1, h2, h3⟩ => by
                have : b = tb := by rw [Bool.eq_iff_iff, h2, ← HBIT.out v hvt, htb]
                rw [this] at h1
                exact ⟨h1, h3⟩
            clear hbb htb
            cases tb with
            | true =>
              go_wp2_with (first
                | (go_at_call 19; (with_reducible refine (bit_any W _ _ hW32).mono ?_); rw [HBB.out]; rintro e w5 ⟨rfl, rfl⟩)
                | (go_at_call 20; (with_reducible refine (HLI.out _ (by go_grown)).mono ?_); rintro e w6 ⟨rfl, hb6⟩))
              go_round
              case rel => exact ⟨v + 1, by omega, by go_num, hbv.trans (hb6.mono hszv)⟩
              case measure => (simp [intOf]; omega)
            | false =>
              go_wp2_with (first
                | (go_at_call 19; (with_reducible refine (bit_any W _ _ hW32).mono ?_); rw [HBB.out]; rintro e w5 ⟨rfl, rfl⟩)
                | (go_at_call 20; (with_reducible refine (HLI.out _ (by go_grown)).mono ?_); rintro e w6 ⟨rfl, hb6⟩))
              go_round
              case rel => exact ⟨v + 1, by omega, by go_num, hbv.trans (hb6.mono hszv)⟩
              case measure => (simp [intOf]; omega)
          · go_wp2_with (go_at_call 21; (with_reducible refine (refFits_is n W _ (by omega) hW32).mono ?_); rw [HF.out]; rintro e w5 ⟨rfl, rfl⟩)
            go_round
            case rel => exact ⟨i + 1, by omega, by go_num, hbv⟩
            case measure => (simp [intOf]; omega)
      · go_wp2
        go_ret
        exact ⟨ret_bool (by simp), hb02.trans (hbr.mono hb02.size)⟩
  · have HIB := Lib.hid (K.inBad vars want A len cap p w hx hl hm hin hw hc)
    obtain ⟨c, hce⟩ : ∃ c, ckWant vars p want = c := ⟨_, rfl⟩
    rw [hce] at HIB HWC hc
    have hne : (c != 0) = true := by simp [hc]
    clear hc hl hin hce
    go_enter Try.func3, Try.ntmps3
    go_wp2_with fail
    refine HIB.out.mono ?_
    rintro e w1 ⟨A1, c1, rfl, hb1⟩
    go_wp2_with fail
    refine (HWC.out _ hb1).mono ?_
    rintro e w2 ⟨rfl, hb2⟩
    go_wp2
    go_ret
    exact ⟨ret_bool (by simp), hb1.trans (hb2.mono hb1.size)⟩

theorem lawLiveTells_int (K : LiveIs) (vars : Int) (A : Option Addr) (cap : Nat) (want : Int) (p : List Bk) (w : World) (hx : RdP w w.heap.size A p) (hm : p.length ≤ maxLen) (hin : ∀ b ∈ p, InBk b) (hw : (Lit.int .u32 want).wf = true) :
    Calls Try.prog 3 #[.int .i64 vars, .slice A p.length cap, .int .u32 want] w fun e w' => e = .returned (.bool true) ∧ Below w.heap.size w w' := by
  obtain ⟨n, rfl, hn⟩ := u32_lit hw
  exact lawLiveTells_any K vars A cap n p w hx hm hin hn

set_option maxRecDepth 100000 in
theorem lawLiveTells_lifted (os : Os) (started : os.Started) (H : Type) (enc : TypeId × Value → H) :
    ReturnsInHanded {} Try.checked os 3 .any (Rows.liveTellsSpec.pre6 enc Try.prog Try.f3 Rows.liveTellsRow.domain false) (Rows.liveTellsSpec.post enc Try.prog Try.f3 false true false false) := by
  refine returnsInHanded_of_change_sized (C := Try.checked) Try.own started (by kernel_rfl) Try.func3
    (ChangeSpec.witness6 (enc := enc) (C := Try.checked) false ⟨#[], #[.int .i64 0, .slice none 0 0, .int .u32 0], []⟩ 8 (by kernel_rfl) (by kernel_rfl) (by kernel_rfl) (by kernel_rfl)) ?_
  intro W base args ds gs before hval0 hW hcnd hsz _
  have hval : ∀ (j : Nat) t v, Try.f3.params[j]? = some t → args[j]? = some v → Value.okWide Try.prog W .any base t v := hval0
  have hW' := hW
  obtain ⟨p, q, hA0, hV, rfl, hfz, hnd⟩ := hW
  have hA : DataW.TrodAll enc Try.prog W 0 (fun _ => true) true Try.f3.params.toList args.toList ds p := hA0
  obtain ⟨hgs, _⟩ := trodVars_none hV
  rw [Try.params3] at hA hval
  obtain ⟨v0, vs0, d0, ds0, p0, q0, hargs, rfl, rfl, h0, r0⟩ := trodAll_cons hA
  obtain ⟨v1, vs1, d1, ds1, p1, q1, rfl, rfl, rfl, h1, r1⟩ := trodAll_cons r0
  obtain ⟨v2, vs2, d2, ds2, p2, q2, rfl, rfl, rfl, h2, r2⟩ := trodAll_cons r1
  obtain ⟨rfl, rfl, rfl⟩ := trodAll_nil r2
  have hargs2 : args = #[v0, v1, v2] := Array.toList_inj.1 hargs
  subst hargs2
  obtain ⟨a0, rfl, _, _, w0⟩ := open_int Try.underlying3 (hval 0 3 v0 rfl rfl) h0
  obtain ⟨A1, c1, l1, rfl, lc1, cm1, x1, g1⟩ := open_progA (reach_at hsz (j := 1) (t := 22) (by rw [Try.params3]; rfl) rfl) (hval 1 22 v1 rfl rfl) h1
  have b1 := len_reach Try.underlying22 (hval 1 22 _ rfl rfl) h1 hsz (j := 1) (by rw [Try.params3]; rfl) rfl
  rw [show Try.prog.bytesOf (Try.prog.elem 22) = 48 from by kernel_rfl] at b1
  obtain ⟨a2, rfl, _, _, w2⟩ := open_int Try.underlying23 (hval 2 23 v2 rfl rfl) h2
  refine (lawLiveTells_int liveIs a0 A1 c1 a2 l1 _ x1 (by omega) g1 w2).mono fun e W' ⟨he, hb⟩ => ?_
  subst he
  exact ⟨_, rfl, law_post Try.laidOut rfl (by kernel_rfl) Try.underlying4 ⟨rfl, rfl, rfl⟩ (by kernel_rfl) hW' hb⟩

theorem liveTells_holds : Rows.LiveTellsSaid :=
  OpenClaim.holds_of_wide 3 Try.f3 rfl rfl rfl rfl rfl rfl rfl ⟨rfl, rfl, rfl, rfl, rfl⟩ rfl rfl rfl rfl rfl (by kernel_rfl) Try.func3 (show joinedFacts Try.prog 3 Try.f3 Rows.liveTellsSpec Rows.liveTellsRow = true from (by unfold joinedFacts; (repeat' (with_reducible refine and_both ?_ ?_)) <;> first | (with_reducible exact may_enter) | ((with_reducible refine make_ok ?_); rfl) | ((with_reducible refine lifts_ok ?_); rfl) | kernel_rfl))
    (of_decide_eq_true (by kernel_rfl)) (by unfold Func.isWrapper; rw [if_neg (of_decide_eq_false (by kernel_rfl))]; exact ⟨rfl, rfl⟩)
    (fun os started H enc _ => lawLiveTells_lifted os started H enc)

end Go.Proofs.Ytfhnhbkdhdocjaa
