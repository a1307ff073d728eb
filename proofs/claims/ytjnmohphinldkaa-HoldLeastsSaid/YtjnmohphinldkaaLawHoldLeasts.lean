/-
  For any things asked for and any places hold.Min returns the fewest misses, or the error (P1; Belady).
-/
import Derived.Test.YtjnmohphinldkaaLawHold
import Derived.Test.YtjnmohphinldkaaHold
import Derived.Test.YtjnmohphinldkaaFewest
namespace Go.Proofs.Ytjnmohphinldkaa
open Go.RowKit Go.ChangeShapes Go.WideShapes Go.ChangeAt Go.Deep
set_option linter.unusedSimpArgs false
set_option linter.unusedVariables false
set_option maxRecDepth 100000

set_option maxHeartbeats 4000000 in
theorem lawHoldLeasts_any (L : MinIs) (A : Option Addr) (cap : Nat) (refs : List Int) (p : Int) (w : World) (hx : RdI w w.heap.size A refs) (hlc : refs.length ≤ cap) (hcm : cap ≤ maxLen) :
    Calls Try.prog 3 #[.slice A refs.length cap, .int .i64 p] w fun e w' => e = .returned (.bool true) ∧ Below w.heap.size w w' := by
  obtain ⟨len, hl⟩ : ∃ len, refs.length = len := ⟨_, rfl⟩
  have HL := Lib.hid hl
  rw [hl] at hlc ⊢
  have HLC := Lib.hid hlc
  have HCM := Lib.hid hcm
  have HX := Lib.hid hx
  have hmx : len ≤ maxLen := by omega
  clear hl hx
  rcases hbad_or len p with hb | ⟨hm, m, rfl, h1, h8⟩
  · have HB := Lib.hid hb
    clear hb
    go_enter Try.func3, Try.ntmps3
    go_wp2_with fail
    refine (L.bad A len cap p _ hmx HB.out).mono ?_
    rintro e w1 ⟨rfl, hb1⟩
    go_wp2_with fail
    refine (holdCode_bad A len cap p _ hmx HB.out).mono ?_
    rintro e w2 ⟨rfl, rfl⟩
    go_wp2
    go_ret
    exact ⟨rfl, hb1⟩
  · go_enter Try.func3, Try.ntmps3
    go_wp2_with fail
    refine (L.ok A len cap m refs _ HX.out HL.out HLC.out HCM.out hm h1 h8).mono ?_
    rintro e w1 ⟨⟨k, hk, rfl⟩, hb1⟩
    have hx1 := Lib.hid ((HX.out.below hb1 (Nat.le_refl _)).more hb1.size)
    have HK := Lib.hid hk
    clear hk
    go_wp2_with fail
    refine (holdCode_ok A len cap m _ hm h1 h8).mono ?_
    rintro e w2 ⟨rfl, rfl⟩
    have HR := Lib.hid (fewest_any A len cap m refs _ hx1.out HL.out hm h1 h8)
    go_wp2_with fail
    refine HR.out.mono ?_
    rintro e w3 ⟨⟨k2, hk2, rfl⟩, hb3⟩
    have hkk := HK.out.same hk2
    subst hkk
    go_wp2
    go_ret
    exact ⟨ret_bool (by simp), hb1.trans (hb3.mono hb1.size)⟩

set_option maxRecDepth 100000 in
theorem lawHoldLeasts_lifted (os : Os) (started : os.Started) (H : Type) (enc : TypeId × Value → H) :
    ReturnsInHanded {} Try.checked os 3 .any (Rows.holdLeastsSpec.pre6 enc Try.prog Try.f3 Rows.holdLeastsRow.domain false) (Rows.holdLeastsSpec.post enc Try.prog Try.f3 false true false false) := by
  refine returnsInHanded_of_change_sized (C := Try.checked) Try.own started (by kernel_rfl) Try.func3
    (ChangeSpec.witness6 (enc := enc) (C := Try.checked) false ⟨#[], #[.slice none 0 0, .int .i64 0], []⟩ 8 (by kernel_rfl) (by kernel_rfl) (by kernel_rfl) (by kernel_rfl)) ?_
  intro W base args ds gs before hval0 hW hcnd hsz _
  have hval : ∀ (j : Nat) t v, Try.f3.params[j]? = some t → args[j]? = some v → Value.okWide Try.prog W .any base t v := hval0
  have hW' := hW
  obtain ⟨p, q, hA0, hV, rfl, hfz, hnd⟩ := hW
  have hA : DataW.TrodAll enc Try.prog W 0 (fun _ => true) true Try.f3.params.toList args.toList ds p := hA0
  obtain ⟨hgs, _⟩ := trodVars_none hV
  rw [Try.params3] at hA hval
  obtain ⟨v0, vs0, d0, ds0, p0, q0, hargs, rfl, rfl, h0, r0⟩ := trodAll_cons hA
  obtain ⟨v1, vs1, d1, ds1, p1, q1, rfl, rfl, rfl, h1, r1⟩ := trodAll_cons r0
  obtain ⟨rfl, rfl, rfl⟩ := trodAll_nil r1
  have hargs2 : args = #[v0, v1] := Array.toList_inj.1 hargs
  subst hargs2
  obtain ⟨A0, c0, l0, rfl, lc0, cm0, x0, r0⟩ := open_intsA (hval 0 22 v0 rfl rfl) h0
  have b0 := len_reach Try.underlying22 (hval 0 22 _ rfl rfl) h0 hsz (j := 0) (by rw [Try.params3]; rfl) rfl
  rw [show Try.prog.bytesOf (Try.prog.elem 22) = 8 from by kernel_rfl] at b0
  obtain ⟨a1, rfl, _, _, w1⟩ := open_int Try.underlying3 (hval 1 3 v1 rfl rfl) h1
  refine (lawHoldLeasts_any minIs A0 c0 l0 a1 _ x0 lc0 cm0).mono fun e W' ⟨he, hb⟩ => ?_
  subst he
  exact ⟨_, rfl, law_post Try.laidOut rfl (by kernel_rfl) Try.underlying4 ⟨rfl, rfl, rfl⟩ (by kernel_rfl) hW' hb⟩

theorem holdLeasts_holds : Rows.HoldLeastsSaid :=
  OpenClaim.holds_of_wide 3 Try.f3 rfl rfl rfl rfl rfl rfl rfl ⟨rfl, rfl, rfl, rfl, rfl⟩ rfl rfl rfl rfl rfl (by kernel_rfl) Try.func3 (show joinedFacts Try.prog 3 Try.f3 Rows.holdLeastsSpec Rows.holdLeastsRow = true from (by unfold joinedFacts; (repeat' (with_reducible refine and_both ?_ ?_)) <;> first | (with_reducible exact may_enter) | ((with_reducible refine make_ok ?_); rfl) | ((with_reducible refine lifts_ok ?_); rfl) | kernel_rfl))
    (of_decide_eq_true (by kernel_rfl)) (by unfold Func.isWrapper; rw [if_neg (of_decide_eq_false (by kernel_rfl))]; exact ⟨rfl, rfl⟩)
    (fun os started H enc _ => lawHoldLeasts_lifted os started H enc)

end Go.Proofs.Ytjnmohphinldkaa
