/-
  way.Order returns the order of E2, or the first error, for all arguments: codemasonlaw.WayOrders returns true and leaves its arguments alone. No condition.
-/
import Derived.Test.YtikbblbehopcdaaLawWay
import Derived.BigRegion
namespace Go.Proofs.Ytikbblbehopcdaa
open Go.RowKit Go.ChangeShapes Go.WideShapes Go.ChangeAt Go.Deep
set_option linter.unusedSimpArgs false
set_option linter.unusedVariables false
set_option maxRecDepth 100000

theorem rev_at {l : List Nat} {i x y : Nat} (hx : l.reverse[i]? = some x) (hy : l[l.length - 1 - i]? = some y) : x = y := by
  have hi := (List.getElem?_eq_some_iff.1 hx).1
  rw [List.length_reverse] at hi
  rw [List.getElem?_reverse hi, hy] at hx
  injection hx with hx
  exact hx.symm

set_option maxHeartbeats 4000000 in
theorem lawWayOrders_any (K : WayIs) (A : Option Addr) (cap : Nat) (nx : List (List Int)) (w : World) (hx : RdG w w.heap.size A nx) (hm : nx.length ≤ maxLen) :
    Calls Try.prog 5 #[.slice A nx.length cap] w fun e w' => e = .returned (.bool true) ∧ Below w.heap.size w w' := by
  have HM := Lib.hid hm
  unfold maxLen at hm
  by_cases hc : ckWay nx = 0
  · have HC := Lib.hid hc
    obtain ⟨hb1', hb2', _⟩ := ckWay_bd hc
    have hfe : (wkF nx nx.length 0 ([], [])).2 = finL nx := rfl
    have HFE := Lib.hid hfe
    have hfl := fin_len hc
    have HRV := Lib.hid (fun i x y => rev_at (l := finL nx) (i := i) (x := x) (y := y))
    clear hc hfe
    go_enter Try.func5, Try.ntmps5
    go_wp2_with fail
    refine (K.order A _ cap nx _ hx rfl HC.out).mono ?_
    rintro e w1 ⟨A1, c1, rfl, hr1, hb1⟩
    have hx1 := (hx.below hb1 (Nat.le_refl _)).more hb1.size
    go_wp2_with fail
    refine (refWayCheck_any A _ cap nx _ hx1 rfl).mono ?_
    rintro e w2 ⟨rfl, rfl⟩
    rw [HC.out]
    go_wp2_with fail
    refine (refWalk_any A _ cap nx w1.heap.size rfl HC.out nx.length 0 ([], []) none none 0 0 w1 hx1 ⟨by simp, by simp, by simp⟩ (by omega) (by simp) (by simp) (Wl.nil (Nat.le_refl _))).mono ?_
    rintro e w2 ⟨A2, c2, A3, c3, rfl, hW2, hb2⟩
    rw [HFE.out]
    have hr3 := hW2.r2
    rw [HFE.out] at hr3
    have hrd3 := own_rdI hr3 (by simp [ni])
    have hrd1 := (hr1.below hb2 (Nat.le_refl _)).more hb2.size
    have hbw := hb1.trans (hb2.mono hb1.size)
    clear hW2 hr3 hr1 hb1 hb2
    generalize finL nx = L at *
    obtain ⟨fn, hfn⟩ : ∃ fn, L.length = fn := ⟨_, rfl⟩
    rw [hfn] at hfl ⊢
    have HFN := Lib.hid hfn
    have HN1 : Hid ((ni L.reverse).length = fn) := Lib.hid (by simp [ni, hfn])
    have HN2 : Hid ((ni L).length = fn) := Lib.hid (by simp [ni, hfn])
    clear hfn
    go_wp2
    go_loopw [8] (fun z wr => ∃ i : Nat, i ≤ fn ∧ z = .int .i64 i ∧ Below w2.heap.size w2 wr) (fun z _ => fn - (intOf z).toNat)
    case atStart => exact ⟨0, Nat.zero_le _, rfl, Below.refl _ _⟩
    case round =>
      obtain ⟨i, hi, rfl, hbr⟩ := hrel
      have hszr := hbr.size
      by_cases hlt : i < fn
      · obtain ⟨a1, x', rfl, hbl1, hd1, hcx⟩ := (hrd1.below hbr (Nat.le_refl _)).at_ (k := i) (by rw [HN1.out]; exact hlt)
        obtain ⟨a3, y', rfl, hbl3, hd3, hcy⟩ := (hrd3.below hbr (Nat.le_refl _)).at_ (k := fn - 1 - i) (by rw [HN2.out]; omega)
        obtain ⟨x, hxx⟩ : ∃ x, L.reverse[i]? = some x := ⟨_, List.getElem?_eq_getElem (by rw [List.length_reverse, HFN.out]; exact hlt)⟩
        obtain ⟨y, hyy⟩ : ∃ y, L[fn - 1 - i]? = some y := ⟨_, List.getElem?_eq_getElem (by rw [HFN.out]; omega)⟩
        rw [ni_at hxx] at hd1
        rw [ni_at hyy] at hd3
        injection hd1 with hd1
        injection hd3 with hd3
        subst hd1 hd3
        have hxy := HRV.out i x y hxx (by rw [HFN.out]; exact hyy)
        subst hxy
        have e1 : (fn : Int) - 1 - (i : Int) = ((fn - 1 - i : Nat) : Int) := by omega
        have e2 : fn - 1 - i < fn := by omega
        clear hxx hyy
        generalize fn - 1 - i = q at *
        go_wp2
        go_region
        all_goals
          go_wp2
          go_round
          case rel => exact ⟨i + 1, by omega, by go_num, by go_grown⟩
          case measure => (simp [intOf]; omega)
      · have hil : i = fn := by omega
        subst hil
        go_wp2
        go_ret
        exact ⟨ret_bool (by simp), hbw.trans (hbr.mono hbw.size)⟩
  · have hne : (ckWay nx != 0) = true := by simp [hc]
    have HC := Lib.hid hc
    clear hc
    go_enter Try.func5, Try.ntmps5
    go_wp2_with fail
    refine (K.orderBad A _ cap nx _ hx rfl HM.out HC.out).mono ?_
    rintro e w1 ⟨A1, c1, rfl, hb1⟩
    have hx1 := (hx.below hb1 (Nat.le_refl _)).more hb1.size
    go_wp2_with fail
    refine (refWayCheck_any A _ cap nx _ hx1 rfl).mono ?_
    rintro e w2 ⟨rfl, rfl⟩
    go_wp2
    go_ret
    exact ⟨ret_bool (by simp), hb1⟩

set_option maxRecDepth 100000 in
theorem lawWayOrders_lifted (os : Os) (started : os.Started) (H : Type) (enc : TypeId × Value → H) :
    ReturnsInHanded {} Try.checked os 5 .any (Rows.wayOrdersSpec.pre6 enc Try.prog Try.f5 Rows.wayOrdersRow.domain false) (Rows.wayOrdersSpec.post enc Try.prog Try.f5 false true false false) := by
  refine returnsInHanded_of_change_sized (C := Try.checked) Try.own started (by kernel_rfl) Try.func5
    (ChangeSpec.witness6 (enc := enc) (C := Try.checked) false ⟨#[], #[.slice none 0 0], []⟩ 8 (by kernel_rfl) (by kernel_rfl) (by kernel_rfl) (by kernel_rfl)) ?_
  intro W base args ds gs before hval0 hW hcnd hsz _
  have hval : ∀ (j : Nat) t v, Try.f5.params[j]? = some t → args[j]? = some v → Value.okWide Try.prog W .any base t v := hval0
  have hW' := hW
  obtain ⟨p, q, hA0, hV, rfl, hfz, hnd⟩ := hW
  have hA : DataW.TrodAll enc Try.prog W 0 (fun _ => true) true Try.f5.params.toList args.toList ds p := hA0
  obtain ⟨hgs, _⟩ := trodVars_none hV
  rw [Try.params5] at hA hval
  obtain ⟨v0, vs0, d0, ds0, p0, q0, hargs, rfl, rfl, h0, r0⟩ := trodAll_cons hA
  obtain ⟨rfl, rfl, rfl⟩ := trodAll_nil r0
  have hargs2 : args = #[v0] := Array.toList_inj.1 hargs
  subst hargs2
  obtain ⟨A0, c0, l0, rfl, lc0, cm0, x0, r0⟩ := open_graphA (hval 0 22 v0 rfl rfl) h0
  have b0 := len_reach Try.underlying22 (hval 0 22 _ rfl rfl) h0 hsz (j := 0) (by rw [Try.params5]; rfl) rfl
  rw [show Try.prog.bytesOf (Try.prog.elem 22) = 24 from by kernel_rfl] at b0
  refine (lawWayOrders_any wayIs A0 c0 l0 _ x0 (by omega)).mono fun e W' ⟨he, hb⟩ => ?_
  subst he
  exact ⟨_, rfl, law_post Try.laidOut rfl (by kernel_rfl) Try.underlying4 ⟨rfl, rfl, rfl⟩ (by kernel_rfl) hW' hb⟩

theorem wayOrders_holds : Rows.WayOrdersSaid :=
  OpenClaim.holds_of_wide 5 Try.f5 rfl rfl rfl rfl rfl rfl rfl ⟨rfl, rfl, rfl, rfl, rfl⟩ rfl rfl rfl rfl rfl (by kernel_rfl) Try.func5 (show joinedFacts Try.prog 5 Try.f5 Rows.wayOrdersSpec Rows.wayOrdersRow = true from (by unfold joinedFacts; (repeat' (with_reducible refine and_both ?_ ?_)) <;> first | (with_reducible exact may_enter) | ((with_reducible refine make_ok ?_); rfl) | ((with_reducible refine lifts_ok ?_); rfl) | kernel_rfl))
    (of_decide_eq_true (by kernel_rfl)) (by unfold Func.isWrapper; rw [if_neg (of_decide_eq_false (by kernel_rfl))]; exact ⟨rfl, rfl⟩)
    (fun os started H enc _ => lawWayOrders_lifted os started H enc)

end Go.Proofs.Ytikbblbehopcdaa
