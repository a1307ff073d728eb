/-
  A program with what is known put in is told as the document says (L2): codemasonlaw.KnownFolds returns true and leaves its arguments alone. No condition.
-/
import Derived.Test.YtdckagledddkdaaLawKnown
import Derived.Test.YtdckagledddkdaaKnown
import Derived.Test.YtdckagledddkdaaKnownFolds
import Derived.Test.YtdckagledddkdaaLiveProgs
namespace Go.Proofs.Ytdckagledddkdaa
open Go.RowKit Go.ChangeShapes Go.WideShapes Go.ChangeAt Go.Deep
set_option linter.unusedSimpArgs false
set_option linter.unusedVariables false
set_option maxRecDepth 100000

set_option maxHeartbeats 8000000 in
theorem lawKnownFolds_any (K : FoldIs) (vars : Int) (A VA : Option Addr) (cap vcap : Nat) (p : List Bk) (hv : List Int) (w : World) (hx : RdP w w.heap.size A p) (hh : RdI w w.heap.size VA hv) (hm : p.length ≤ maxLen) (hin : ∀ b ∈ p, InBk b) (hvm : hv.length ≤ maxLen) :
    Calls Try.prog 4 #[.int .i64 vars, .slice A p.length cap, .slice VA hv.length vcap] w fun e w' => e = .returned (.bool true) ∧ Below w.heap.size w w' := by
  obtain ⟨len, hl⟩ : ∃ len, p.length = len := ⟨_, rfl⟩
  have HL := Lib.hid hl
  obtain ⟨vl, hvl⟩ : ∃ vl, hv.length = vl := ⟨_, rfl⟩
  have HVL := Lib.hid hvl
  rw [hl] at hm ⊢
  rw [hvl] at hvm ⊢
  have HWC := Lib.hid (fun (Z : World) (hZ : Below w.heap.size w Z) => startCode_any vars A VA len cap vl vcap p hv Z ((hx.below hZ (Nat.le_refl _)).more hZ.size) ((hh.below hZ (Nat.le_refl _)).more hZ.size) hl hm hin hvl hvm)
  by_cases hc : ckKnow vars p hv = 0
  · obtain ⟨n, rfl, hn1, hn6, hc1, hk⟩ := ckKnow_ok hc
    obtain ⟨_, _, b3, b4, _⟩ := ckProg_bd hc1
    rw [hl] at b3 b4
    rw [hc] at HWC
    obtain rfl : n = vl := by rw [← hvl]; exact hk.1.symm
    have HC1 := Lib.hid hc1
    have HK := Lib.hid hk
    have HIN := Lib.hid (K.fold n A VA len cap vcap p hv w hx hh hl hc1 hk)
    clear hc hc1 hk hl hin hvl
    go_enter Try.func4, Try.ntmps4
    go_wp2_with fail
    refine HIN.out.mono ?_
    rintro e w1 ⟨A1, c1, L, rfl, hx1, hL, hb1⟩
    have HLE := Lib.hid hL
    clear hL
    go_wp2_with fail
    refine (HWC.out _ hb1).mono ?_
    rintro e w2 ⟨rfl, hb2⟩
    have hb02 := hb1.trans (hb2.mono hb1.size)
    have hx2 := (hx.below hb02 (Nat.le_refl _)).more hb02.size
    have hh2 := (hh.below hb02 (Nat.le_refl _)).more hb02.size
    have hx12 := (hx1.below hb2 (Nat.le_refl _)).more hb2.size
    go_wp2_with fail
    refine (refFolds_any n A VA len cap vcap p hv _ hx2 hh2 HL.out HC1.out HK.out).mono ?_
    rintro e w3 ⟨⟨A3, c3, X, rfl, hx3, hle⟩, hb3⟩
    have hLX := HLE.out.one hle
    subst hLX
    have hb03 := hb02.trans (hb3.mono hb02.size)
    have hx13 := (hx12.below hb3 (Nat.le_refl _)).more hb3.size
    have HFL : Hid ((fdP p L).length = len) := Lib.hid (by rw [fdP_len HLE.out.sol.len, HL.out])
    have hm20 : manyS (fdP p L) ≤ 20 := Nat.le_trans (fdP_many p L) (ckProg_bd HC1.out).2.2.2.2.1
    clear hle hx1
    go_wp2_with fail
    refine (progs_same A1 A3 len c1 c3 (fdP p L) _ hx13 hx3 HFL.out b4 hm20).mono ?_
    rintro e w4 ⟨rfl, hb4⟩
    go_wp2
    go_ret
    exact ⟨ret_bool (by simp), hb03.trans (hb4.mono hb03.size)⟩
  · have HIB := Lib.hid (K.foldBad vars A VA len cap vl vcap p hv w hx hh hl hm hin hvl hvm hc)
    obtain ⟨c, hce⟩ : ∃ c, ckKnow vars p hv = c := ⟨_, rfl⟩
    rw [hce] at HIB HWC hc
    have hne : (c != 0) = true := by simp [hc]
    clear hc hl hin hce hvl
    go_enter Try.func4, Try.ntmps4
    go_wp2_with fail
    refine HIB.out.mono ?_
    rintro e w1 ⟨A1, c1, rfl, hb1⟩
    go_wp2_with fail
    refine (HWC.out _ hb1).mono ?_
    rintro e w2 ⟨rfl, hb2⟩
    go_wp2
    go_ret
    exact ⟨ret_bool (by simp), hb1.trans (hb2.mono hb1.size)⟩

set_option maxRecDepth 100000 in
theorem lawKnownFolds_lifted (os : Os) (started : os.Started) (H : Type) (enc : TypeId × Value → H) :
    ReturnsInHanded {} Try.checked os 4 .any (Rows.knownFoldsSpec.pre6 enc Try.prog Try.f4 Rows.knownFoldsRow.domain false) (Rows.knownFoldsSpec.post enc Try.prog Try.f4 false true false false) := by
  refine returnsInHanded_of_change_sized (C := Try.checked) Try.own started (by kernel_rfl) Try.func4
    (ChangeSpec.witness6 (enc := enc) (C := Try.checked) false ⟨#[], #[.int .i64 0, .slice none 0 0, .slice none 0 0], []⟩ 8 (by kernel_rfl) (by kernel_rfl) (by kernel_rfl) (by kernel_rfl)) ?_
  intro W base args ds gs before hval0 hW hcnd hsz _
  have hval : ∀ (j : Nat) t v, Try.f4.params[j]? = some t → args[j]? = some v → Value.okWide Try.prog W .any base t v := hval0
  have hW' := hW
  obtain ⟨p, q, hA0, hV, rfl, hfz, hnd⟩ := hW
  have hA : DataW.TrodAll enc Try.prog W 0 (fun _ => true) true Try.f4.params.toList args.toList ds p := hA0
  obtain ⟨hgs, _⟩ := trodVars_none hV
  rw [Try.params4] at hA hval
  obtain ⟨v0, vs0, d0, ds0, p0, q0, hargs, rfl, rfl, h0, r0⟩ := trodAll_cons hA
  obtain ⟨v1, vs1, d1, ds1, p1, q1, rfl, rfl, rfl, h1, r1⟩ := trodAll_cons r0
  obtain ⟨v2, vs2, d2, ds2, p2, q2, rfl, rfl, rfl, h2, r2⟩ := trodAll_cons r1
  obtain ⟨rfl, rfl, rfl⟩ := trodAll_nil r2
  have hargs2 : args = #[v0, v1, v2] := Array.toList_inj.1 hargs
  subst hargs2
  obtain ⟨a0, rfl, _, _, w0⟩ := open_int Try.underlying3 (hval 0 3 v0 rfl rfl) h0
  obtain ⟨A1, c1, l1, rfl, lc1, cm1, x1, g1⟩ := open_progA (reach_at hsz (j := 1) (t := 22) (by rw [Try.params4]; rfl) rfl) (hval 1 22 v1 rfl rfl) h1
  have b1 := len_reach Try.underlying22 (hval 1 22 _ rfl rfl) h1 hsz (j := 1) (by rw [Try.params4]; rfl) rfl
  rw [show Try.prog.bytesOf (Try.prog.elem 22) = 48 from by kernel_rfl] at b1
  obtain ⟨A2, c2, l2, rfl, lc2, cm2, x2, r2⟩ := open_intsA (hval 2 23 v2 rfl rfl) h2
  have b2 := len_reach Try.underlying23 (hval 2 23 _ rfl rfl) h2 hsz (j := 2) (by rw [Try.params4]; rfl) rfl
  rw [show Try.prog.bytesOf (Try.prog.elem 23) = 8 from by kernel_rfl] at b2
  refine (lawKnownFolds_any foldIs a0 A1 A2 c1 c2 l1 l2 _ x1 x2 (by omega) g1 (by omega)).mono fun e W' ⟨he, hb⟩ => ?_
  subst he
  exact ⟨_, rfl, law_post Try.laidOut rfl (by kernel_rfl) Try.underlying4 ⟨rfl, rfl, rfl⟩ (by kernel_rfl) hW' hb⟩

theorem knownFolds_holds : Rows.KnownFoldsSaid :=
  OpenClaim.holds_of_wide 4 Try.f4 rfl rfl rfl rfl rfl rfl rfl ⟨rfl, rfl, rfl, rfl, rfl⟩ rfl rfl rfl rfl rfl (by kernel_rfl) Try.func4 (show joinedFacts Try.prog 4 Try.f4 Rows.knownFoldsSpec Rows.knownFoldsRow = true from (by unfold joinedFacts; (repeat' (with_reducible refine and_both ?_ ?_)) <;> first | (with_reducible exact may_enter) | ((with_reducible refine make_ok ?_); rfl) | ((with_reducible refine lifts_ok ?_); rfl) | kernel_rfl))
    (of_decide_eq_true (by kernel_rfl)) (by unfold Func.isWrapper; rw [if_neg (of_decide_eq_false (by kernel_rfl))]; exact ⟨rfl, rfl⟩)
    (fun os started H enc _ => lawKnownFolds_lifted os started H enc)

end Go.Proofs.Ytdckagledddkdaa
