/-
  Of each block no more steps are needed than with all tests needed (K2, T2): codemasonkeep.CutLive returns true and leaves its arguments alone. No condition.
-/
import Derived.Test.YtfhnhbkdhdocjaaCutIs
import Derived.Test.YtfhnhbkdhdocjaaMCut
import Derived.BigQuiet
import Derived.Test.YtfhnhbkdhdocjaaCut
import Derived.Test.YtfhnhbkdhdocjaaLive
namespace Go.Proofs.Ytfhnhbkdhdocjaa
open Go.RowKit Go.ChangeShapes Go.WideShapes Go.ChangeAt Go.Deep
set_option linter.unusedSimpArgs false
set_option linter.unusedVariables false
set_option maxRecDepth 100000

set_option maxHeartbeats 8000000 in
theorem lawCutLive_any (K : CutIs) (K2 : TrimIs) (vars : Int) (A : Option Addr) (cap want : Nat) (p : List Bk) (w : World) (hx : RdP w w.heap.size A p) (hm : p.length ≤ maxLen) (hin : ∀ b ∈ p, InBk b) (hw : want < 4294967296) :
    Calls Try.prog 16 #[.int .i64 vars, .slice A p.length cap, .int .u32 (want : Nat)] w fun e w' => e = .returned (.bool true) ∧ Below w.heap.size w w' := by
  obtain ⟨len, hl⟩ : ∃ len, p.length = len := ⟨_, rfl⟩
  have HL := Lib.hid hl
  rw [hl] at hm ⊢
  obtain ⟨T, hT⟩ := stops_bool (nxP p)
  have HRP := Lib.hid (fun (Z : World) (hZ : Below w.heap.size w Z) => (RdP.below hx hZ (Nat.le_refl _)).more hZ.size)
  by_cases hc : ckCut vars p want T = 0
  · obtain ⟨rfl, n, rfl, hn1, hn6, hc1, hc2⟩ := ckCut_ok hc
    obtain ⟨_, _, b3, b4, _⟩ := ckProg_bd hc1
    rw [hl] at b3 b4
    have HC1 := Lib.hid hc1
    have HSL := Lib.hid (K.slice n want A len cap p w hx hl hc1 hc2 (hT.1 rfl))
    have HTR := Lib.hid (fun (Z : World) (hZ : Below w.heap.size w Z) => K2.trim n want A len cap p Z (HRP.out Z hZ) hl hc1 hc2)
    have H20 : Hid (∀ (i : Nat) (b : Bk), p[i]? = some b → b.code.length ≤ 20) := Lib.hid fun i b hb => by
      have := manyS_le hb
      have := (ckProg_bd HC1.out).2.2.2.2.1
      omega
    clear hc hc1 hc2 hin hT hl
    go_enter Try.func16, Try.ntmps16
    go_wp2_with fail
    refine HSL.out.mono ?_
    rintro e w1 ⟨A1, c1, q, MS, MT, rfl, hnd, hsl, hx1, hb1⟩
    go_wp2_with fail
    refine (HTR.out _ hb1).mono ?_
    rintro e w2 ⟨A2, c2, r, rfl, hx2, hcs, hnf, hb2⟩
    have HQL : Hid (q.length = len) := Lib.hid (by rw [hsl.len, HL.out])
    have HRL : Hid (r.length = len) := Lib.hid (by rw [hcs.len, HL.out])
    have HLE1 := Lib.hid (fun i b c (h1 : q[i]? = some b) (h2 : r[i]? = some c) => cut_live hnd hsl hcs h1 h2)
    have HLE2 := Lib.hid (cuts_code hcs)
    have HX0 := Lib.hid (fun (Z : World) (hZ : Below w2.heap.size w2 Z) => HRP.out Z (below_via (below_via hb1 hb2) hZ))
    have HX1 := Lib.hid (fun (Z : World) (hZ : Below w2.heap.size w2 Z) => (RdP.below hx1 (below_via hb2 hZ) (Nat.le_refl _)).more (below_via hb2 hZ).size)
    have HX2 := Lib.hid (fun (Z : World) (hZ : Below w2.heap.size w2 Z) => (RdP.below hx2 hZ (Nat.le_refl _)).more hZ.size)
    have HB02 := Lib.hid (below_via hb1 hb2)
    clear hnd hsl hx1 hx2 hcs hnf hb1 hb2
    go_wp2_with fail
    go_loopw [49] (fun z wr => ∃ i : Nat, i ≤ len ∧ z = .int .i64 i ∧ Hid (Below w2.heap.size w2 wr)) (fun z _ => len - (intOf z).toNat)
    case atStart => exact ⟨0, Nat.zero_le _, rfl, Lib.hid (Below.refl _ _)⟩
    case round =>
      obtain ⟨i, hi, rfl, HB⟩ := hrel
      by_cases hlt : i < len
      · obtain ⟨ad0, b0, Ac0, cc0, rfl, hbl0, hd0, _, x0, _, _, _⟩ := (HX0.out wr HB.out).at_ (k := i) (by rw [HL.out]; exact hlt)
        obtain ⟨ad1, b1, Ac1, cc1, rfl, hbl1, hd1, _, x1, _, _, _⟩ := (HX1.out wr HB.out).at_ (k := i) (by rw [HQL.out]; exact hlt)
        obtain ⟨ad2, b2, Ac2, cc2, rfl, hbl2, hd2, _, x2, _, _, _⟩ := (HX2.out wr HB.out).at_ (k := i) (by rw [HRL.out]; exact hlt)
        have h1 := HLE1.out i b1 b2 hd1 hd2
        have h2 := HLE2.out i b0 b2 hd0 hd2
        have h3 := H20.out i b0 hd0
        obtain ⟨l0, e0⟩ : ∃ l, b0.code.length = l := ⟨_, rfl⟩
        obtain ⟨l1, e1⟩ : ∃ l, b1.code.length = l := ⟨_, rfl⟩
        obtain ⟨l2, e2⟩ : ∃ l, b2.code.length = l := ⟨_, rfl⟩
        rw [e0] at x0 h2 h3
        rw [e1] at x1 h1
        rw [e2] at x2 h1 h2
        have d1 : decide ((l2 : Int) < (l1 : Int)) = false := by simp; omega
        have d2 : decide ((l0 : Int) < (l2 : Int)) = false := by simp; omega
        clear hd0 hd1 hd2 e0 e1 e2
        go_wp2_with fail
        go_quiet (fail)
        go_wp2_with fail
        go_round
        case rel => exact ⟨i + 1, by omega, by go_num, Lib.hid (below_drewNL HB.out _)⟩
        case measure => (simp [intOf]; omega)
      · go_wp2
        go_ret
        exact ⟨rfl, below_via HB02.out HB.out⟩
  · have HIB := Lib.hid (K.sliceBad vars want A len cap p T w hx hl hm hin hw hT hc)
    have HTR : Hid (∀ Z : World, Below w.heap.size w Z → Calls Try.prog 22 #[.int .i64 vars, .slice A len cap, .int .u32 (want : Nat)] Z fun e w' => (∃ A' l' c' x, e = .returned (.tuple #[.slice A' l' c', .int .i64 x])) ∧ Below Z.heap.size Z w') := Lib.hid fun Z hZ => by
      by_cases h1 : ckWant vars p want = 0
      · obtain ⟨n, rfl, _, _, hc1, hc2⟩ := ckWant_ok h1
        refine (K2.trim n want A len cap p Z (HRP.out Z hZ) hl hc1 hc2).mono ?_
        rintro e w' ⟨A', c', q, rfl, _, _, _, hb⟩
        exact ⟨⟨A', len, c', 0, rfl⟩, hb⟩
      · refine (K2.trimBad vars want A len cap p Z (HRP.out Z hZ) hl hm hin hw h1).mono ?_
        rintro e w' ⟨A', c', rfl, hb⟩
        exact ⟨⟨A', 0, c', _, rfl⟩, hb⟩
    obtain ⟨c, hce⟩ : ∃ c, ckCut vars p want T = c := ⟨_, rfl⟩
    rw [hce] at HIB hc
    have hne : (c != 0) = true := by simp [hc]
    clear hc hl hin hce hT
    go_enter Try.func16, Try.ntmps16
    go_wp2_with fail
    refine HIB.out.mono ?_
    rintro e w1 ⟨A1, c1, rfl, hb1⟩
    go_wp2_with fail
    refine (HTR.out _ hb1).mono ?_
    rintro e w2 ⟨⟨A2, l2, c2, x2, rfl⟩, hb2⟩
    go_wp2
    go_ret
    exact ⟨ret_bool (by simp), hb1.trans (hb2.mono hb1.size)⟩

theorem lawCutLive_int (K : CutIs) (K2 : TrimIs) (vars : Int) (A : Option Addr) (cap : Nat) (want : Int) (p : List Bk) (w : World) (hx : RdP w w.heap.size A p) (hm : p.length ≤ maxLen) (hin : ∀ b ∈ p, InBk b) (hw : (Lit.int .u32 want).wf = true) :
    Calls Try.prog 16 #[.int .i64 vars, .slice A p.length cap, .int .u32 want] w fun e w' => e = .returned (.bool true) ∧ Below w.heap.size w w' := by
  obtain ⟨n, rfl, hn⟩ := u32_lit hw
  exact lawCutLive_any K K2 vars A cap n p w hx hm hin hn

set_option maxRecDepth 100000 in
theorem lawCutLive_lifted (os : Os) (started : os.Started) (H : Type) (enc : TypeId × Value → H) :
    ReturnsInHanded {} Try.checked os 16 .any (Rows.cutLiveSpec.pre6 enc Try.prog Try.f16 Rows.cutLiveRow.domain false) (Rows.cutLiveSpec.post enc Try.prog Try.f16 false true false false) := by
  refine returnsInHanded_of_change_sized (C := Try.checked) Try.own started (by kernel_rfl) Try.func16
    (ChangeSpec.witness6 (enc := enc) (C := Try.checked) false ⟨#[], #[.int .i64 0, .slice none 0 0, .int .u32 0], []⟩ 8 (by kernel_rfl) (by kernel_rfl) (by kernel_rfl) (by kernel_rfl)) ?_
  intro W base args ds gs before hval0 hW hcnd hsz _
  have hval : ∀ (j : Nat) t v, Try.f16.params[j]? = some t → args[j]? = some v → Value.okWide Try.prog W .any base t v := hval0
  have hW' := hW
  obtain ⟨p, q, hA0, hV, rfl, hfz, hnd⟩ := hW
  have hA : DataW.TrodAll enc Try.prog W 0 (fun _ => true) true Try.f16.params.toList args.toList ds p := hA0
  obtain ⟨hgs, _⟩ := trodVars_none hV
  rw [Try.params16] at hA hval
  obtain ⟨v0, vs0, d0, ds0, p0, q0, hargs, rfl, rfl, h0, r0⟩ := trodAll_cons hA
  obtain ⟨v1, vs1, d1, ds1, p1, q1, rfl, rfl, rfl, h1, r1⟩ := trodAll_cons r0
  obtain ⟨v2, vs2, d2, ds2, p2, q2, rfl, rfl, rfl, h2, r2⟩ := trodAll_cons r1
  obtain ⟨rfl, rfl, rfl⟩ := trodAll_nil r2
  have hargs2 : args = #[v0, v1, v2] := Array.toList_inj.1 hargs
  subst hargs2
  obtain ⟨a0, rfl, _, _, w0⟩ := open_int Try.underlying3 (hval 0 3 v0 rfl rfl) h0
  obtain ⟨A1, c1, l1, rfl, lc1, cm1, x1, g1⟩ := open_progA (reach_at hsz (j := 1) (t := 22) (by rw [Try.params16]; rfl) rfl) (hval 1 22 v1 rfl rfl) h1
  have b1 := len_reach Try.underlying22 (hval 1 22 _ rfl rfl) h1 hsz (j := 1) (by rw [Try.params16]; rfl) rfl
  rw [show Try.prog.bytesOf (Try.prog.elem 22) = 48 from by kernel_rfl] at b1
  obtain ⟨a2, rfl, _, _, w2⟩ := open_int Try.underlying23 (hval 2 23 v2 rfl rfl) h2
  refine (lawCutLive_int cutIs trimIs a0 A1 c1 a2 l1 _ x1 (by omega) g1 w2).mono fun e W' ⟨he, hb⟩ => ?_
  subst he
  exact ⟨_, rfl, law_post Try.laidOut rfl (by kernel_rfl) Try.underlying4 ⟨rfl, rfl, rfl⟩ (by kernel_rfl) hW' hb⟩

theorem cutLive_holds : Rows.CutLiveSaid :=
  OpenClaim.holds_of_wide 16 Try.f16 rfl rfl rfl rfl rfl rfl rfl ⟨rfl, rfl, rfl, rfl, rfl⟩ rfl rfl rfl rfl rfl (by kernel_rfl) Try.func16 (show joinedFacts Try.prog 16 Try.f16 Rows.cutLiveSpec Rows.cutLiveRow = true from (by unfold joinedFacts; (repeat' (with_reducible refine and_both ?_ ?_)) <;> first | (with_reducible exact may_enter) | ((with_reducible refine make_ok ?_); rfl) | ((with_reducible refine lifts_ok ?_); rfl) | kernel_rfl))
    (of_decide_eq_true (by kernel_rfl)) (by unfold Func.isWrapper; rw [if_neg (of_decide_eq_false (by kernel_rfl))]; exact ⟨rfl, rfl⟩)
    (fun os started H enc _ => lawCutLive_lifted os started H enc)

end Go.Proofs.Ytfhnhbkdhdocjaa
