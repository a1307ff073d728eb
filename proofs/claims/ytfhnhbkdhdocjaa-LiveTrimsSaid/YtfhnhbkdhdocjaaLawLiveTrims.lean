/-
  A program without each step that is not needed is told as the document says (K2): codemasonlaw.LiveTrims returns true and leaves its arguments alone. No condition.
-/
import Derived.Test.YtfhnhbkdhdocjaaLawLive
import Derived.Test.YtfhnhbkdhdocjaaLive
import Derived.Test.YtfhnhbkdhdocjaaLiveProgs
namespace Go.Proofs.Ytfhnhbkdhdocjaa
open Go.RowKit Go.ChangeShapes Go.WideShapes Go.ChangeAt Go.Deep
set_option linter.unusedSimpArgs false
set_option linter.unusedVariables false
set_option maxRecDepth 100000

set_option maxHeartbeats 8000000 in
theorem lawLiveTrims_any (K : TrimIs) (vars : Int) (A : Option Addr) (cap want : Nat) (p : List Bk) (w : World) (hx : RdP w w.heap.size A p) (hm : p.length ≤ maxLen) (hin : ∀ b ∈ p, InBk b) (hw : want < 4294967296) :
    Calls Try.prog 4 #[.int .i64 vars, .slice A p.length cap, .int .u32 (want : Nat)] w fun e w' => e = .returned (.bool true) ∧ Below w.heap.size w w' := by
  obtain ⟨len, hl⟩ : ∃ len, p.length = len := ⟨_, rfl⟩
  have HL := Lib.hid hl
  rw [hl] at hm ⊢
  have HWC := Lib.hid (fun (Z : World) (hZ : Below w.heap.size w Z) => wantCode_any vars want A len cap p Z ((hx.below hZ (Nat.le_refl _)).more hZ.size) hl hm hin hw)
  by_cases hc : ckWant vars p want = 0
  · obtain ⟨n, rfl, hn1, hn6, hc1, hc2⟩ := ckWant_ok hc
    obtain ⟨_, _, b3, b4, _⟩ := ckProg_bd hc1
    rw [hl] at b3 b4
    rw [hc] at HWC
    have HC1 := Lib.hid hc1
    have HTR := Lib.hid (K.trim n want A len cap p w hx hl hc1 hc2)
    clear hc hc1 hc2 hl hin
    go_enter Try.func4, Try.ntmps4
    go_wp2_with fail
    refine HTR.out.mono ?_
    rintro e w1 ⟨A1, c1, q, rfl, hx1, hcs, hnf, hb1⟩
    go_wp2_with fail
    refine (HWC.out _ hb1).mono ?_
    rintro e w2 ⟨rfl, hb2⟩
    have hb02 := hb1.trans (hb2.mono hb1.size)
    have hx2 := (hx.below hb02 (Nat.le_refl _)).more hb02.size
    have hx12 := (hx1.below hb2 (Nat.le_refl _)).more hb2.size
    have HCS := Lib.hid hcs
    have HNF := Lib.hid hnf
    have HQ := Lib.hid (hcs.ok HC1.out)
    have HQL : Hid (q.length = len) := Lib.hid (by rw [hcs.len, HL.out])
    clear hcs hnf hx1
    go_wp2_with fail
    refine (refTrim_any n want A len cap p _ hx2 HL.out HC1.out hw).mono ?_
    rintro e w3 ⟨q', A3, c3, hcs3, hnf3, rfl, hx3, hb3⟩
    have hqq := cuts_one (toOk_of HC1.out) HCS.out hcs3 HNF.out hnf3
    subst hqq
    have hb03 := hb02.trans (hb3.mono hb02.size)
    have hx13 := (hx12.below hb3 (Nat.le_refl _)).more hb3.size
    obtain ⟨_, _, _, _, hm20, _⟩ := ckProg_bd HQ.out
    go_wp2_with fail
    refine (progs_same A1 A3 len c1 c3 q _ hx13 hx3 HQL.out b4 hm20).mono ?_
    rintro e w4 ⟨rfl, hb4⟩
    go_wp2
    go_ret
    exact ⟨ret_bool (by simp), hb03.trans (hb4.mono hb03.size)⟩
  · have HIB := Lib.hid (K.trimBad vars want A len cap p w hx hl hm hin hw hc)
    obtain ⟨c, hce⟩ : ∃ c, ckWant vars p want = c := ⟨_, rfl⟩
    rw [hce] at HIB HWC hc
    have hne : (c != 0) = true := by simp [hc]
    clear hc hl hin hce
    go_enter Try.func4, Try.ntmps4
    go_wp2_with fail
    refine HIB.out.mono ?_
    rintro e w1 ⟨A1, c1, rfl, hb1⟩
    go_wp2_with fail
    refine (HWC.out _ hb1).mono ?_
    rintro e w2 ⟨rfl, hb2⟩
    go_wp2
    go_ret
    exact ⟨ret_bool (by simp), hb1.trans (hb2.mono hb1.size)⟩

theorem lawLiveTrims_int (K : TrimIs) (vars : Int) (A : Option Addr) (cap : Nat) (want : Int) (p : List Bk) (w : World) (hx : RdP w w.heap.size A p) (hm : p.length ≤ maxLen) (hin : ∀ b ∈ p, InBk b) (hw : (Lit.int .u32 want).wf = true) :
    Calls Try.prog 4 #[.int .i64 vars, .slice A p.length cap, .int .u32 want] w fun e w' => e = .returned (.bool true) ∧ Below w.heap.size w w' := by
  obtain ⟨n, rfl, hn⟩ := u32_lit hw
  exact lawLiveTrims_any K vars A cap n p w hx hm hin hn

set_option maxRecDepth 100000 in
theorem lawLiveTrims_lifted (os : Os) (started : os.Started) (H : Type) (enc : TypeId × Value → H) :
    ReturnsInHanded {} Try.checked os 4 .any (Rows.liveTrimsSpec.pre6 enc Try.prog Try.f4 Rows.liveTrimsRow.domain false) (Rows.liveTrimsSpec.post enc Try.prog Try.f4 false true false false) := by
  refine returnsInHanded_of_change_sized (C := Try.checked) Try.own started (by kernel_rfl) Try.func4
    (ChangeSpec.witness6 (enc := enc) (C := Try.checked) false ⟨#[], #[.int .i64 0, .slice none 0 0, .int .u32 0], []⟩ 8 (by kernel_rfl) (by kernel_rfl) (by kernel_rfl) (by kernel_rfl)) ?_
  intro W base args ds gs before hval0 hW hcnd hsz _
  have hval : ∀ (j : Nat) t v, Try.f4.params[j]? = some t → args[j]? = some v → Value.okWide Try.prog W .any base t v := hval0
  have hW' := hW
  obtain ⟨p, q, hA0, hV, rfl, hfz, hnd⟩ := hW
  have hA : DataW.TrodAll enc Try.prog W 0 (fun _ => true) true Try.f4.params.toList args.toList ds p := hA0
  obtain ⟨hgs, _⟩ := trodVars_none hV
  rw [Try.params4] at hA hval
  obtain ⟨v0, vs0, d0, ds0, p0, q0, hargs, rfl, rfl, h0, r0⟩ := trodAll_cons hA
  obtain ⟨v1, vs1, d1, ds1, p1, q1, rfl, rfl, rfl, h1, r1⟩ := trodAll_cons r0
  obtain ⟨v2, vs2, d2, ds2, p2, q2, rfl, rfl, rfl, h2, r2⟩ := trodAll_cons r1
  obtain ⟨rfl, rfl, rfl⟩ := trodAll_nil r2
  have hargs2 : args = #[v0, v1, v2] := Array.toList_inj.1 hargs
  subst hargs2
  obtain ⟨a0, rfl, _, _, w0⟩ := open_int Try.underlying3 (hval 0 3 v0 rfl rfl) h0
  obtain ⟨A1, c1, l1, rfl, lc1, cm1, x1, g1⟩ := open_progA (reach_at hsz (j := 1) (t := 22) (by rw [Try.params4]; rfl) rfl) (hval 1 22 v1 rfl rfl) h1
  have b1 := len_reach Try.underlying22 (hval 1 22 _ rfl rfl) h1 hsz (j := 1) (by rw [Try.params4]; rfl) rfl
  rw [show Try.prog.bytesOf (Try.prog.elem 22) = 48 from by kernel_rfl] at b1
  obtain ⟨a2, rfl, _, _, w2⟩ := open_int Try.underlying23 (hval 2 23 v2 rfl rfl) h2
  refine (lawLiveTrims_int trimIs a0 A1 c1 a2 l1 _ x1 (by omega) g1 w2).mono fun e W' ⟨he, hb⟩ => ?_
  subst he
  exact ⟨_, rfl, law_post Try.laidOut rfl (by kernel_rfl) Try.underlying4 ⟨rfl, rfl, rfl⟩ (by kernel_rfl) hW' hb⟩

theorem liveTrims_holds : Rows.LiveTrimsSaid :=
  OpenClaim.holds_of_wide 4 Try.f4 rfl rfl rfl rfl rfl rfl rfl ⟨rfl, rfl, rfl, rfl, rfl⟩ rfl rfl rfl rfl rfl (by kernel_rfl) Try.func4 (show joinedFacts Try.prog 4 Try.f4 Rows.liveTrimsSpec Rows.liveTrimsRow = true from (by unfold joinedFacts; (repeat' (with_reducible refine and_both ?_ ?_)) <;> first | (with_reducible exact may_enter) | ((with_reducible refine make_ok ?_); rfl) | ((with_reducible refine lifts_ok ?_); rfl) | kernel_rfl))
    (of_decide_eq_true (by kernel_rfl)) (by unfold Func.isWrapper; rw [if_neg (of_decide_eq_false (by kernel_rfl))]; exact ⟨rfl, rfl⟩)
    (fun os started H enc _ => lawLiveTrims_lifted os started H enc)

end Go.Proofs.Ytfhnhbkdhdocjaa
