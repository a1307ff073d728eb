/-
  For any pieces the program tells where they are laid, with as few long jumps as can be (X1).
-/
import Derived.Test.YthckglpleiojkaaLawJump
import Derived.Test.YthckglpleiojkaaJpLay
import Derived.Test.YthckglpleiojkaaJpFew
import Derived.Test.YthckglpleiojkaaIntsSame
import Derived.Test.YthckglpleiojkaaMOpen
namespace Go.Proofs.Ythckglpleiojkaa
open Go.RowKit Go.ChangeShapes Go.WideShapes Go.ChangeAt Go.Deep
set_option linter.unusedSimpArgs false
set_option linter.unusedVariables false
set_option maxRecDepth 100000

set_option maxHeartbeats 8000000 in
theorem lawJumpLays_any (A : Option Addr) (cap : Nat) (l : List Pc) (w : World) (hx : RdPc w w.heap.size A l) :
    Calls Try.prog 3 #[.slice A l.length cap] w fun e w' => e = .returned (.bool true) ∧ Below w.heap.size w w' := by
  obtain ⟨len, hlen⟩ : ∃ n, l.length = n := ⟨_, rfl⟩
  rw [hlen]
  have HL := Lib.hid hlen
  have HX := Lib.hid (fun (Z : World) (hZ : Below w.heap.size w Z) => (hx.below hZ (Nat.le_refl _)).more hZ.size)
  have HCK := Lib.hid (fun (Z : World) (hZ : Below w.heap.size w Z) => refPieces_any A len cap l Z (HX.out Z hZ) hlen)
  by_cases hc : ckPc l = 0
  · have HC := Lib.hid hc
    have HK := Lib.hid (ckPc_ok hc)
    have h10 : len ≤ 10 := by rw [← hlen]; exact (ckPc_ok hc).len
    have HLAY := Lib.hid (lay_ok A len cap l w hx hlen hc)
    clear hx hc hlen
    go_enter Try.func3, Try.ntmps3
    go_wp2_with fail
    refine HLAY.out.mono ?_
    rintro e w1 ⟨⟨W, ga, gs, rfl, hfin, hoa, hos, _, _⟩, hb1⟩
    have hs1 := hb1.size
    go_wp2_with fail
    refine (HCK.out w1 hb1).mono ?_
    rintro e w2 ⟨rfl, hb2⟩
    rw [HC.out]
    have hbw2 := hb1.trans (hb2.mono hs1)
    have HFIN := Lib.hid hfin
    have hW32 : W < 4294967296 := Nat.lt_of_lt_of_le hfin.lt (Nat.le_of_lt (pow_lt_32 (by rw [HL.out]; omega)))
    have hoa2 := hoa.below hb2 hoa.lt
    have hos2 := hos.below hb2 hos.lt
    clear hfin hoa hos hb1 hb2
    go_wp2_with fail
    refine (few_any A len cap l W w2 (HX.out w2 hbw2) HL.out HK.out HFIN.out).mono ?_
    rintro e w3 ⟨rfl, hb3⟩
    have hbw3 := hbw2.trans (hb3.mono hbw2.size)
    have hoa3 := hoa2.below hb3 hoa2.lt
    have hos3 := hos2.below hb3 hos2.lt
    clear hoa2 hos2 hb3 hbw2
    go_wp2_with fail
    refine (lays_any A len cap l W w3 (HX.out w3 hbw3) HL.out HK.out hW32).mono ?_
    rintro e w4 ⟨(⟨_, A1, c1, A2, c2, rfl, hr1, hr2⟩ | ⟨hno, _⟩), hb4⟩
    · have hbw4 := hbw3.trans (hb4.mono hbw3.size)
      have hoa4 := hoa3.below hb4 hoa3.lt
      have hos4 := hos3.below hb4 hos3.lt
      have HI1 := Lib.hid (ints_same (some ⟨ga, 0, none⟩) A1 (len + 1) (len + 1) c1 (atl l W) w4 ((OwnI.rd hoa4).more hoa4.lt) hr1 (by rw [atl_len, HL.out]) (by unfold maxLen; omega))
      have HI2 := Lib.hid (fun (Z : World) (hZ : Below w4.heap.size w4 Z) => ints_same (some ⟨gs, 0, none⟩) A2 len len c2 (szl l W) Z (((OwnI.rd hos4).below hZ hos4.lt).more (Nat.lt_of_lt_of_le hos4.lt hZ.size)) ((hr2.below hZ (Nat.le_refl _)).more hZ.size) (by rw [szl_len, HL.out]) (by unfold maxLen; omega))
      have HB4 := Lib.hid hbw4
      clear hoa3 hos3 hb4 hbw3 hoa4 hos4 hr1 hr2 hbw4
      go_wp2_with fail
      refine HI1.out.mono ?_
      rintro e w5 ⟨rfl, hb5⟩
      go_wp2_with fail
      refine (HI2.out w5 hb5).mono ?_
      rintro e w6 ⟨rfl, hb6⟩
      go_wp2
      go_ret
      exact ⟨rfl, HB4.out.trans ((hb5.trans (hb6.mono hb5.size)).mono HB4.out.size)⟩
    · exact absurd HFIN.out.ok hno
  · have HLAY := Lib.hid (lay_no A len cap l w hx hlen hc)
    have hne : (ckPc l != 0) = true := by simp [hc]
    clear hx hc hlen
    go_enter Try.func3, Try.ntmps3
    go_wp2_with fail
    refine HLAY.out.mono ?_
    rintro e w1 ⟨rfl, hb1⟩
    have hs1 := hb1.size
    go_wp2_with fail
    refine (HCK.out w1 hb1).mono ?_
    rintro e w2 ⟨rfl, hb2⟩
    go_wp2
    go_ret
    exact ⟨ret_bool (by simp), hb1.trans (hb2.mono hs1)⟩

set_option maxRecDepth 100000 in
theorem lawJumpLays_lifted (os : Os) (started : os.Started) (H : Type) (enc : TypeId × Value → H) :
    ReturnsInHanded {} Try.checked os 3 .any (Rows.jumpLaysSpec.pre6 enc Try.prog Try.f3 Rows.jumpLaysRow.domain false) (Rows.jumpLaysSpec.post enc Try.prog Try.f3 false true false false) := by
  refine returnsInHanded_of_change_sized (C := Try.checked) Try.own started (by kernel_rfl) Try.func3
    (ChangeSpec.witness6 (enc := enc) (C := Try.checked) false ⟨#[], #[.slice none 0 0], []⟩ 8 (by kernel_rfl) (by kernel_rfl) (by kernel_rfl) (by kernel_rfl)) ?_
  intro W base args ds gs before hval0 hW hcnd hsz _
  have hval : ∀ (j : Nat) t v, Try.f3.params[j]? = some t → args[j]? = some v → Value.okWide Try.prog W .any base t v := hval0
  have hW' := hW
  obtain ⟨p, q, hA0, hV, rfl, hfz, hnd⟩ := hW
  have hA : DataW.TrodAll enc Try.prog W 0 (fun _ => true) true Try.f3.params.toList args.toList ds p := hA0
  obtain ⟨hgs, _⟩ := trodVars_none hV
  rw [Try.params3] at hA hval
  obtain ⟨v0, vs0, d0, ds0, p0, q0, hargs, rfl, rfl, h0, r0⟩ := trodAll_cons hA
  obtain ⟨rfl, rfl, rfl⟩ := trodAll_nil r0
  have hargs2 : args = #[v0] := Array.toList_inj.1 hargs
  subst hargs2
  obtain ⟨A0, c0, l0, rfl, lc0, cm0, x0, r0⟩ := open_piecesA (hval 0 22 v0 rfl rfl) h0
  have b0 := len_reach Try.underlying22 (hval 0 22 _ rfl rfl) h0 hsz (j := 0) (by rw [Try.params3]; rfl) rfl
  rw [show Try.prog.bytesOf (Try.prog.elem 22) = 24 from by kernel_rfl] at b0
  refine (lawJumpLays_any A0 c0 l0 _ x0).mono fun e W' ⟨he, hb⟩ => ?_
  subst he
  exact ⟨_, rfl, law_post Try.laidOut rfl (by kernel_rfl) Try.underlying4 ⟨rfl, rfl, rfl⟩ (by kernel_rfl) hW' hb⟩

theorem jumpLays_holds : Rows.JumpLaysSaid :=
  OpenClaim.holds_of_wide 3 Try.f3 rfl rfl rfl rfl rfl rfl rfl ⟨rfl, rfl, rfl, rfl, rfl⟩ rfl rfl rfl rfl rfl (by kernel_rfl) Try.func3 (show joinedFacts Try.prog 3 Try.f3 Rows.jumpLaysSpec Rows.jumpLaysRow = true from (by unfold joinedFacts; (repeat' (with_reducible refine and_both ?_ ?_)) <;> first | (with_reducible exact may_enter) | ((with_reducible refine make_ok ?_); rfl) | ((with_reducible refine lifts_ok ?_); rfl) | kernel_rfl))
    (of_decide_eq_true (by kernel_rfl)) (by unfold Func.isWrapper; rw [if_neg (of_decide_eq_false (by kernel_rfl))]; exact ⟨rfl, rfl⟩)
    (fun os started H enc _ => lawJumpLays_lifted os started H enc)

end Go.Proofs.Ythckglpleiojkaa
