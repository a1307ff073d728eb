/-
  KILDALL: fact.Solve returns the facts of I2, or the first error, for all arguments: codemasonlaw.FactSolves returns true and leaves its arguments alone. No condition.
-/
import Derived.Test.YtmbabbdcijgnoaaLawFact
import Derived.Test.YtmbabbdcijgnoaaFact
import Derived.Test.YtmbabbdcijgnoaaFactsRef
namespace Go.Proofs.Ytmbabbdcijgnoaa
open Go.RowKit Go.ChangeShapes Go.WideShapes Go.ChangeAt Go.Deep
set_option linter.unusedSimpArgs false
set_option linter.unusedVariables false
set_option maxRecDepth 100000

set_option maxHeartbeats 4000000 in
theorem lawFactSolves_any (K : FactIs) (A : Option Addr) (cap : Nat) (nx : List (List Int)) (A1 : Option Addr) (c1 : Nat) (A2 : Option Addr) (c2 : Nat) (lw : Lw) (w : World) (hx : RdG w w.heap.size A nx) (hm : nx.length ≤ maxLen) (hr : RdL w w.heap.size A1 A2 lw) (hu : U32L lw) :
    Calls Try.prog 3 #[.slice A nx.length cap, .agg #[.bool lw.bw, .bool lw.al, .slice A1 lw.ma.length c1, .slice A2 lw.en.length c2, .int .u32 (lw.st : Nat)]] w fun e w' => e = .returned (.bool true) ∧ Below w.heap.size w w' := by
  have HM := Lib.hid hm
  unfold maxLen at hm
  have hb0 : Below w.heap.size w (w.alloc (.cells #[.bool lw.bw, .bool lw.al, .slice A1 lw.ma.length c1, .slice A2 lw.en.length c2, .int .u32 (lw.st : Nat)] 26)) := by go_grown
  have hx0 := (hx.below hb0 (Nat.le_refl _)).more hb0.size
  have hr0 := (hr.below hb0 (Nat.le_refl _)).more hb0.size
  have hown := Own.new w 26 [.bool lw.bw, .bool lw.al, .slice A1 lw.ma.length c1, .slice A2 lw.en.length c2, .int .u32 (lw.st : Nat)]
  by_cases hc : ckLaw nx lw = 0
  · have HC := Lib.hid hc
    obtain ⟨hcw, hm1, hm2, _⟩ := ckLaw_ok hc
    have hb8 := ckWay_bd hcw
    have HFR := Lib.hid (fun (w2 : World) h1 h2 => refFacts_any A nx.length cap nx A1 c1 A2 c2 lw w2 h1 rfl h2 hc)
    rw [← hm2] at HFR
    obtain ⟨len, hlen⟩ : ∃ len, nx.length = len := ⟨_, rfl⟩
    have HLEN := Lib.hid hlen
    have hl8 : len ≤ 8 := by omega
    have hml : lw.ma.length = len := hm1.trans hlen
    have hel : lw.en.length = len := hm2.trans hlen
    rw [hml, hel] at hown hb0 hx0 hr0 ⊢
    have HSV := Lib.hid (fun (w2 : World) h1 h2 => K.solve A len cap nx A1 c1 A2 c2 lw w2 h1 hlen h2 hu hc)
    have HLC := Lib.hid (fun (w2 : World) h1 h2 => refLawCheck_any A len cap nx A1 c1 A2 c2 lw w2 h1 hlen h2 hu)
    rw [hml, hel] at HSV HLC
    rw [hlen] at hm ⊢
    have HFR2 : Hid (∀ (w2 : World), RdG w2 w2.heap.size A nx → RdL w2 w2.heap.size A1 A2 lw → Calls Try.prog 11 #[.slice A len cap, .agg #[.bool lw.bw, .bool lw.al, .slice A1 len c1, .slice A2 len c2, .int .u32 (lw.st : Nat)]] w2 fun e w' => ∃ ws A' c', Slv nx lw ws ∧ e = .returned (.slice A' len c') ∧ RdU w' w'.heap.size A' ws ∧ Below w2.heap.size w2 w') := Lib.hid fun w2 h1 h2 => refFacts_any A len cap nx A1 c1 A2 c2 lw w2 h1 hlen h2 hc
    clear hc hcw hm1 hm2 hb8 hlen hml hel HFR
    go_enter Try.func3, Try.ntmps3
    go_wp2_with fail
    refine (HSV.out _ hx0 hr0).mono ?_
    rintro e w1 ⟨ws, A3, c3, hsv, rfl, hr3, _, hb1⟩
    have hx1 := (hx0.below hb1 (Nat.le_refl _)).more hb1.size
    have hr1 := (hr0.below hb1 (Nat.le_refl _)).more hb1.size
    have hown1 := hown.below hb1 hown.lt
    have d0 := hown1.cell (j := 0) rfl
    have d1 := hown1.cell (j := 1) rfl
    have d2 := hown1.cell (j := 2) rfl
    have d3 := hown1.cell (j := 3) rfl
    have d4 := hown1.cell (j := 4) rfl
    have hl1 := hown1.lt
    have HS := Lib.hid hsv
    have HWL := Lib.hid (hsv.len.trans HLEN.out)
    clear hsv
    go_wp2_with fail
    refine (HLC.out _ hx1 hr1).mono ?_
    rintro e w2 ⟨rfl, hb2⟩
    rw [HC.out]
    have hx2 := (hx1.below hb2 (Nat.le_refl _)).more hb2.size
    have hr2 := (hr1.below hb2 (Nat.le_refl _)).more hb2.size
    have hr3' := (hr3.below hb2 (Nat.le_refl _)).more hb2.size
    have hown2 := hown1.below hb2 hl1
    have f0 := hown2.cell (j := 0) rfl
    have f1 := hown2.cell (j := 1) rfl
    have f2 := hown2.cell (j := 2) rfl
    have f3 := hown2.cell (j := 3) rfl
    have f4 := hown2.cell (j := 4) rfl
    go_wp2_with fail
    refine (HFR2.out _ hx2 hr2).mono ?_
    rintro e w3 ⟨ws', A4, c4, hsv', rfl, hr4, hb3⟩
    have hww : ws' = ws := hsv'.one HS.out
    subst hww
    have hr3'' := (hr3'.below hb3 (Nat.le_refl _)).more hb3.size
    have hbw := ((hb0.trans (hb1.mono hb0.size)).trans (hb2.mono (by have := hb0.size; have := hb1.size; omega))).trans (hb3.mono (by have := hb0.size; have := hb1.size; have := hb2.size; omega))
    clear hsv'
    go_wp2_with fail
    refine (words_same A3 A4 len c3 c4 ws' _ hr3'' hr4 HWL.out (by unfold maxLen; omega)).mono ?_
    rintro e w4 ⟨rfl, hb4⟩
    go_wp2
    go_ret
    exact ⟨ret_bool (by simp), hbw.trans (hb4.mono hbw.size)⟩
  · have hne : (ckLaw nx lw != 0) = true := by simp [hc]
    have HC := Lib.hid hc
    clear hc
    go_enter Try.func3, Try.ntmps3
    go_wp2_with fail
    refine (K.solveBad A _ cap nx A1 c1 A2 c2 lw _ hx0 rfl HM.out hr0 hu HC.out).mono ?_
    rintro e w1 ⟨A3, c3, rfl, hb1⟩
    have hx1 := (hx0.below hb1 (Nat.le_refl _)).more hb1.size
    have hr1 := (hr0.below hb1 (Nat.le_refl _)).more hb1.size
    have hown1 := hown.below hb1 hown.lt
    have d0 := hown1.cell (j := 0) rfl
    have d1 := hown1.cell (j := 1) rfl
    have d2 := hown1.cell (j := 2) rfl
    have d3 := hown1.cell (j := 3) rfl
    have d4 := hown1.cell (j := 4) rfl
    have hl1 := hown1.lt
    go_wp2_with fail
    refine (refLawCheck_any A _ cap nx A1 c1 A2 c2 lw _ hx1 rfl hr1 hu).mono ?_
    rintro e w2 ⟨rfl, hb2⟩
    go_wp2
    go_ret
    exact ⟨ret_bool (by simp), (hb0.trans (hb1.mono hb0.size)).trans (hb2.mono (by have := hb0.size; have := hb1.size; omega))⟩

set_option maxRecDepth 100000 in
theorem lawFactSolves_lifted (os : Os) (started : os.Started) (H : Type) (enc : TypeId × Value → H) :
    ReturnsInHanded {} Try.checked os 3 .any (Rows.factSolvesSpec.pre6 enc Try.prog Try.f3 Rows.factSolvesRow.domain false) (Rows.factSolvesSpec.post enc Try.prog Try.f3 false true false false) := by
  refine returnsInHanded_of_change_sized (C := Try.checked) Try.own started (by kernel_rfl) Try.func3
    (ChangeSpec.witness6 (enc := enc) (C := Try.checked) false ⟨#[], #[.slice none 0 0, .agg #[.bool false, .bool false, .slice none 0 0, .slice none 0 0, .int .u32 0]], []⟩ 8 (by kernel_rfl) (by kernel_rfl) (by kernel_rfl) (by kernel_rfl)) ?_
  intro W base args ds gs before hval0 hW hcnd hsz _
  have hval : ∀ (j : Nat) t v, Try.f3.params[j]? = some t → args[j]? = some v → Value.okWide Try.prog W .any base t v := hval0
  have hW' := hW
  obtain ⟨p, q, hA0, hV, rfl, hfz, hnd⟩ := hW
  have hA : DataW.TrodAll enc Try.prog W 0 (fun _ => true) true Try.f3.params.toList args.toList ds p := hA0
  obtain ⟨hgs, _⟩ := trodVars_none hV
  rw [Try.params3] at hA hval
  obtain ⟨v0, vs0, d0, ds0, p0, q0, hargs, rfl, rfl, h0, r0⟩ := trodAll_cons hA
  obtain ⟨v1, vs1, d1, ds1, p1, q1, rfl, rfl, rfl, h1, r1⟩ := trodAll_cons r0
  obtain ⟨rfl, rfl, rfl⟩ := trodAll_nil r1
  have hargs2 : args = #[v0, v1] := Array.toList_inj.1 hargs
  subst hargs2
  obtain ⟨A0, c0, l0, rfl, lc0, cm0, x0, r0⟩ := open_graphA (hval 0 22 v0 rfl rfl) h0
  have b0 := len_reach Try.underlying22 (hval 0 22 _ rfl rfl) h0 hsz (j := 0) (by rw [Try.params3]; rfl) rfl
  rw [show Try.prog.bytesOf (Try.prog.elem 22) = 24 from by kernel_rfl] at b0
  obtain ⟨w1, A1, c1, B1, e1, rfl, x1, u1⟩ := open_lawA (hval 1 26 v1 rfl rfl) h1
  refine (lawFactSolves_any factIs A0 c0 l0 A1 c1 B1 e1 w1 _ x0 (by omega) x1 u1).mono fun e W' ⟨he, hb⟩ => ?_
  subst he
  exact ⟨_, rfl, law_post Try.laidOut rfl (by kernel_rfl) Try.underlying4 ⟨rfl, rfl, rfl⟩ (by kernel_rfl) hW' hb⟩

theorem factSolves_holds : Rows.FactSolvesSaid :=
  OpenClaim.holds_of_wide 3 Try.f3 rfl rfl rfl rfl rfl rfl rfl ⟨rfl, rfl, rfl, rfl, rfl⟩ rfl rfl rfl rfl rfl (by kernel_rfl) Try.func3 (show joinedFacts Try.prog 3 Try.f3 Rows.factSolvesSpec Rows.factSolvesRow = true from (by unfold joinedFacts; (repeat' (with_reducible refine and_both ?_ ?_)) <;> first | (with_reducible exact may_enter) | ((with_reducible refine make_ok ?_); rfl) | ((with_reducible refine lifts_ok ?_); rfl) | kernel_rfl))
    (of_decide_eq_true (by kernel_rfl)) (by unfold Func.isWrapper; rw [if_neg (of_decide_eq_false (by kernel_rfl))]; exact ⟨rfl, rfl⟩)
    (fun os started H enc _ => lawFactSolves_lifted os started H enc)

end Go.Proofs.Ytmbabbdcijgnoaa
