/-
  For any tree and any tiles tile.Cost tells what a cover costs at the least (W1, W2).
-/
import Derived.Test.YteogdcjigigeeaaLawTile
import Derived.Test.YteogdcjigigeeaaMOpen
namespace Go.Proofs.Yteogdcjigigeeaa
open Go.RowKit Go.ChangeShapes Go.WideShapes Go.ChangeAt Go.Deep
set_option linter.unusedSimpArgs false
set_option linter.unusedVariables false
set_option maxRecDepth 100000

set_option maxHeartbeats 4000000 in
theorem lawTileCosts_any (vars : Int) (A : Option Addr) (cap : Nat) (l : List Tm) (E : Option Addr) (te : Nat) (ts : List Ti) (w : World) (hx : RdT w w.heap.size A l) (ht : RdTi w w.heap.size E ts) :
    Calls Try.prog 3 #[.int .i64 vars, .slice A l.length cap, .slice E ts.length te] w fun e w' => e = .returned (.bool true) ∧ Below w.heap.size w w' := by
  have HCO := Lib.hid (tileCost_any vars A l.length cap l w hx rfl E ts.length te ts ht rfl)
  have HCD := Lib.hid (fun (W : World) (hW : Below w.heap.size w W) => tileCode_any vars A l.length cap l W ((hx.below hW (Nat.le_refl _)).more hW.size) rfl E ts.length te ts ((ht.below hW (Nat.le_refl _)).more hW.size) rfl)
  by_cases hck : ckTl vars l ts = 0
  · have HR := Lib.hid (fun (W : World) (hW : Below w.heap.size w W) => refCost_last A l.length cap l rfl E ts.length te ts rfl hck W ((hx.below hW (Nat.le_refl _)).more hW.size) ((ht.below hW (Nat.le_refl _)).more hW.size))
    have HT : Hid (tcR vars l ts = (coA l ts (l.length - 1) : Nat)) := Lib.hid (by unfold tcR; rw [if_pos hck])
    have HK := Lib.hid hck
    have hbd := ckTerms_bd (ckTree_ok (ckTT_ok (ckTl_ok hck).1).1).1
    have hlp : 0 < l.length := by omega
    have hl16 : l.length ≤ 16 := by omega
    have hi1 : IntKind.i64.wrap ((l.length : Int) - 1) = ((l.length - 1 : Nat) : Int) := by rw [IntKind.wrap_i64]; omega
    have hi2 : ((l.length : Int) - 1) = ((l.length - 1 : Nat) : Int) := by omega
    rw [HT.out, HK.out] at HCO
    rw [HK.out] at HCD
    clear hx ht hck hbd
    go_enter Try.func3, Try.ntmps3
    go_wp2_with fail
    refine HCO.out.mono ?_
    rintro e w1 ⟨rfl, hb1⟩
    go_wp2_with fail
    refine (HCD.out w1 hb1).mono ?_
    rintro e w2 ⟨rfl, hb2⟩
    have hbw := hb1.trans (hb2.mono hb1.size)
    go_wp2_with fail
    refine (HR.out w2 hbw).mono ?_
    rintro e w3 ⟨rfl, hb3⟩
    go_wp2
    go_ret
    exact ⟨ret_bool (by simp), hbw.trans (hb3.mono hbw.size)⟩
  · have HT : Hid (tcR vars l ts = 0) := Lib.hid (by unfold tcR; rw [if_neg hck])
    have hne : (ckTl vars l ts != 0) = true := by simp [hck]
    rw [HT.out] at HCO
    clear hx ht hck
    go_enter Try.func3, Try.ntmps3
    go_wp2_with fail
    refine HCO.out.mono ?_
    rintro e w1 ⟨rfl, hb1⟩
    go_wp2_with fail
    refine (HCD.out w1 hb1).mono ?_
    rintro e w2 ⟨rfl, hb2⟩
    go_wp2
    go_ret
    exact ⟨ret_bool (by simp), hb1.trans (hb2.mono hb1.size)⟩

set_option maxRecDepth 100000 in
theorem lawTileCosts_lifted (os : Os) (started : os.Started) (H : Type) (enc : TypeId × Value → H) :
    ReturnsInHanded {} Try.checked os 3 .any (Rows.tileCostsSpec.pre6 enc Try.prog Try.f3 Rows.tileCostsRow.domain false) (Rows.tileCostsSpec.post enc Try.prog Try.f3 false true false false) := by
  refine returnsInHanded_of_change_sized (C := Try.checked) Try.own started (by kernel_rfl) Try.func3
    (ChangeSpec.witness6 (enc := enc) (C := Try.checked) false ⟨#[], #[.int .i64 0, .slice none 0 0, .slice none 0 0], []⟩ 8 (by kernel_rfl) (by kernel_rfl) (by kernel_rfl) (by kernel_rfl)) ?_
  intro W base args ds gs before hval0 hW hcnd hsz _
  have hval : ∀ (j : Nat) t v, Try.f3.params[j]? = some t → args[j]? = some v → Value.okWide Try.prog W .any base t v := hval0
  have hW' := hW
  obtain ⟨p, q, hA0, hV, rfl, hfz, hnd⟩ := hW
  have hA : DataW.TrodAll enc Try.prog W 0 (fun _ => true) true Try.f3.params.toList args.toList ds p := hA0
  obtain ⟨hgs, _⟩ := trodVars_none hV
  rw [Try.params3] at hA hval
  obtain ⟨v0, vs0, d0, ds0, p0, q0, hargs, rfl, rfl, h0, r0⟩ := trodAll_cons hA
  obtain ⟨v1, vs1, d1, ds1, p1, q1, rfl, rfl, rfl, h1, r1⟩ := trodAll_cons r0
  obtain ⟨v2, vs2, d2, ds2, p2, q2, rfl, rfl, rfl, h2, r2⟩ := trodAll_cons r1
  obtain ⟨rfl, rfl, rfl⟩ := trodAll_nil r2
  have hargs2 : args = #[v0, v1, v2] := Array.toList_inj.1 hargs
  subst hargs2
  obtain ⟨a0, rfl, _, _, w0⟩ := open_int Try.underlying3 (hval 0 3 v0 rfl rfl) h0
  obtain ⟨A1, c1, l1, rfl, lc1, cm1, x1, r1⟩ := open_termsA (hval 1 22 v1 rfl rfl) h1
  have b1 := len_reach Try.underlying22 (hval 1 22 _ rfl rfl) h1 hsz (j := 1) (by rw [Try.params3]; rfl) rfl
  rw [show Try.prog.bytesOf (Try.prog.elem 22) = 32 from by kernel_rfl] at b1
  obtain ⟨A2, c2, l2, rfl, lc2, cm2, x2, r2⟩ := open_tilesA (hval 2 23 v2 rfl rfl) h2
  have b2 := len_reach Try.underlying23 (hval 2 23 _ rfl rfl) h2 hsz (j := 2) (by rw [Try.params3]; rfl) rfl
  rw [show Try.prog.bytesOf (Try.prog.elem 23) = 32 from by kernel_rfl] at b2
  refine (lawTileCosts_any a0 A1 c1 l1 A2 c2 l2 _ x1 x2).mono fun e W' ⟨he, hb⟩ => ?_
  subst he
  exact ⟨_, rfl, law_post Try.laidOut rfl (by kernel_rfl) Try.underlying4 ⟨rfl, rfl, rfl⟩ (by kernel_rfl) hW' hb⟩

theorem tileCosts_holds : Rows.TileCostsSaid :=
  OpenClaim.holds_of_wide 3 Try.f3 rfl rfl rfl rfl rfl rfl rfl ⟨rfl, rfl, rfl, rfl, rfl⟩ rfl rfl rfl rfl rfl (by kernel_rfl) Try.func3 (show joinedFacts Try.prog 3 Try.f3 Rows.tileCostsSpec Rows.tileCostsRow = true from (by unfold joinedFacts; (repeat' (with_reducible refine and_both ?_ ?_)) <;> first | (with_reducible exact may_enter) | ((with_reducible refine make_ok ?_); rfl) | ((with_reducible refine lifts_ok ?_); rfl) | kernel_rfl))
    (of_decide_eq_true (by kernel_rfl)) (by unfold Func.isWrapper; rw [if_neg (of_decide_eq_false (by kernel_rfl))]; exact ⟨rfl, rfl⟩)
    (fun os started H enc _ => lawTileCosts_lifted os started H enc)

end Go.Proofs.Yteogdcjigigeeaa
