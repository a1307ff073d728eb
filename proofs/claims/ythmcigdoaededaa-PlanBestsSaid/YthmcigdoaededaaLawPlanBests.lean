/-
  For any tasks and any hands plan.Best returns in how few turns all can be done, or the first error (Q1).
-/
import Derived.Test.YthmcigdoaededaaLawPlan
import Derived.Test.YthmcigdoaededaaShortest
import Derived.Test.YthmcigdoaededaaPlanBest
namespace Go.Proofs.Ythmcigdoaededaa
open Go.RowKit Go.ChangeShapes Go.WideShapes Go.ChangeAt Go.Deep
set_option linter.unusedSimpArgs false
set_option linter.unusedVariables false
set_option maxRecDepth 100000

set_option maxHeartbeats 4000000 in
theorem lawPlanBests_any (B : BestIs) (n : Int) (A : Option Addr) (cap : Nat) (l : List (Int × Int)) (m : Int) (w : World) (hx : RdM w w.heap.size A l) (hm : l.length ≤ maxLen) :
    Calls Try.prog 5 #[.int .i64 n, .slice A l.length cap, .int .i64 m] w fun e w' => e = .returned (.bool true) ∧ Below w.heap.size w w' := by
  obtain ⟨z, hz⟩ := hd_ex n l m
  obtain ⟨len, hlen⟩ : ∃ len, l.length = len := ⟨_, rfl⟩
  have HL := Lib.hid hlen
  rw [hlen] at hm ⊢
  have HM := Lib.hid hm
  have HHC := Lib.hid (fun w hx => handsCode_any n m A len cap l z w hx hlen hm hz)
  clear hlen hm
  cases hz with
  | tasks _ h1 h2 =>
    have hne : (z != 0) = true := by simpa using h2
    have H1 := Lib.hid h1
    have H2 := Lib.hid h2
    clear h1 h2
    go_enter Try.func5, Try.ntmps5
    go_wp2_with fail
    refine (B.bad n A len cap l m z _ hx HL.out HM.out H1.out H2.out).mono ?_
    rintro e w1 ⟨rfl, hb1⟩
    have hx1 := (hx.below hb1 (Nat.le_refl _)).more hb1.size
    go_wp2_with fail
    refine (HHC.out _ hx1).mono ?_
    rintro e w2 ⟨rfl, hb2⟩
    go_wp2
    go_ret
    exact ⟨ret_bool (by simp), hb1.trans (hb2.mono hb1.size)⟩
  | range h1 h2 =>
    obtain ⟨k, ps, rfl, rfl, hok⟩ := h1.zero
    have HOK := Lib.hid hok
    have H2 := Lib.hid h2
    have HPL : Hid (ps.length = len) := Lib.hid (by rw [← HL.out, mvI_len])
    clear h1 h2 hok
    go_enter Try.func5, Try.ntmps5
    go_wp2_with fail
    refine (B.range k A len cap ps m _ hx HPL.out HOK.out H2.out).mono ?_
    rintro e w1 ⟨rfl, hb1⟩
    have hx1 := (hx.below hb1 (Nat.le_refl _)).more hb1.size
    go_wp2_with fail
    refine (HHC.out _ hx1).mono ?_
    rintro e w2 ⟨rfl, hb2⟩
    go_wp2
    go_ret
    exact ⟨ret_bool (by simp), hb1.trans (hb2.mono hb1.size)⟩
  | ok h1 h2 h3 =>
    obtain ⟨k, ps, rfl, rfl, hok⟩ := h1.zero
    obtain ⟨q, rfl⟩ : ∃ q : Nat, m = q := ⟨m.toNat, by omega⟩
    have HOK := Lib.hid hok
    have HPL : Hid (ps.length = len) := Lib.hid (by rw [← HL.out, mvI_len])
    have hq1 : 1 ≤ q := by omega
    have hq8 : q ≤ 8 := by omega
    have hk8 := hok.small
    obtain ⟨b, hbf, hb1, hbk⟩ := hok.fewest hq1
    have HBF := Lib.hid hbf
    have HYES : Hid (Can k q (fun a b => (a, b) ∈ ps) 0 b) := Lib.hid (can_start.2 hbf.can)
    obtain ⟨b1, hb1e⟩ : ∃ b1, b = b1 + 1 := ⟨b - 1, by omega⟩
    have HNO : Hid (¬ Can k q (fun a b => (a, b) ∈ ps) 0 b1) := Lib.hid fun h => by
      obtain ⟨f, hf⟩ := can_start.1 h
      have := HBF.out.least _ _ hf
      omega
    have hbs : (b : Int) - 1 = (b1 : Int) := by omega
    have HS := Lib.hid (fun t w hx ht => shortest_any k q len cap A ps HOK.out HPL.out hq1 hq8 t t 0 w (Nat.le_refl _) hx ht (Nat.two_pow_pos k) (fun a b _ h => by simp at h))
    have hb8 : b ≤ 8 := by omega
    have hb18 : b1 ≤ 8 := by omega
    clear h1 h2 h3 hok hbf hb1e
    go_enter Try.func5, Try.ntmps5
    go_wp2_with fail
    refine (B.ok k A len cap ps q _ hx HPL.out HOK.out hq1 hq8).mono ?_
    rintro e w1 ⟨⟨b2, hb2f, rfl⟩, hw1⟩
    obtain rfl := HBF.out.same hb2f
    have hx1 := (hx.below hw1 (Nat.le_refl _)).more hw1.size
    clear hb2f
    go_wp2_with fail
    refine (HHC.out _ hx1).mono ?_
    rintro e w2 ⟨rfl, hw2⟩
    have hw12 : Below w.heap.size w w2 := hw1.trans (hw2.mono hw1.size)
    have HX2 := Lib.hid ((hx.below hw12 (Nat.le_refl _)).more hw12.size)
    go_wp2_with fail
    refine (HS.out b _ HX2.out hb8).mono ?_
    rintro e w3 ⟨⟨r1, rfl, hr1⟩, hw3⟩
    obtain rfl : r1 = true := hr1.2 HYES.out
    have hw13 : Below w.heap.size w w3 := hw12.trans (hw3.mono hw12.size)
    have HX3 := Lib.hid ((hx.below hw13 (Nat.le_refl _)).more hw13.size)
    clear hr1
    go_wp2_with fail
    refine (HS.out b1 _ HX3.out hb18).mono ?_
    rintro e w4 ⟨⟨r2, rfl, hr2⟩, hw4⟩
    obtain rfl : r2 = false := by
      cases r2 with
      | false => rfl
      | true => exact absurd (hr2.1 rfl) HNO.out
    clear hr2
    go_wp2
    go_ret
    exact ⟨ret_bool (by simp), hw13.trans (hw4.mono hw13.size)⟩

set_option maxRecDepth 100000 in
theorem lawPlanBests_lifted (os : Os) (started : os.Started) (H : Type) (enc : TypeId × Value → H) :
    ReturnsInHanded {} Try.checked os 5 .any (Rows.planBestsSpec.pre6 enc Try.prog Try.f5 Rows.planBestsRow.domain false) (Rows.planBestsSpec.post enc Try.prog Try.f5 false true false false) := by
  refine returnsInHanded_of_change_sized (C := Try.checked) Try.own started (by kernel_rfl) Try.func5
    (ChangeSpec.witness6 (enc := enc) (C := Try.checked) false ⟨#[], #[.int .i64 0, .slice none 0 0, .int .i64 0], []⟩ 8 (by kernel_rfl) (by kernel_rfl) (by kernel_rfl) (by kernel_rfl)) ?_
  intro W base args ds gs before hval0 hW hcnd hsz _
  have hval : ∀ (j : Nat) t v, Try.f5.params[j]? = some t → args[j]? = some v → Value.okWide Try.prog W .any base t v := hval0
  have hW' := hW
  obtain ⟨p, q, hA0, hV, rfl, hfz, hnd⟩ := hW
  have hA : DataW.TrodAll enc Try.prog W 0 (fun _ => true) true Try.f5.params.toList args.toList ds p := hA0
  obtain ⟨hgs, _⟩ := trodVars_none hV
  rw [Try.params5] at hA hval
  obtain ⟨v0, vs0, d0, ds0, p0, q0, hargs, rfl, rfl, h0, r0⟩ := trodAll_cons hA
  obtain ⟨v1, vs1, d1, ds1, p1, q1, rfl, rfl, rfl, h1, r1⟩ := trodAll_cons r0
  obtain ⟨v2, vs2, d2, ds2, p2, q2, rfl, rfl, rfl, h2, r2⟩ := trodAll_cons r1
  obtain ⟨rfl, rfl, rfl⟩ := trodAll_nil r2
  have hargs2 : args = #[v0, v1, v2] := Array.toList_inj.1 hargs
  subst hargs2
  obtain ⟨a0, rfl, _, _, w0⟩ := open_int Try.underlying3 (hval 0 3 v0 rfl rfl) h0
  obtain ⟨A1, c1, l1, rfl, lc1, cm1, x1, r1⟩ := open_pairsA (hval 1 22 v1 rfl rfl) h1
  have b1 := len_reach Try.underlying22 (hval 1 22 _ rfl rfl) h1 hsz (j := 1) (by rw [Try.params5]; rfl) rfl
  rw [show Try.prog.bytesOf (Try.prog.elem 22) = 16 from by kernel_rfl] at b1
  obtain ⟨a2, rfl, _, _, w2⟩ := open_int Try.underlying3 (hval 2 3 v2 rfl rfl) h2
  refine (lawPlanBests_any bestIs a0 A1 c1 l1 a2 _ x1 (by omega)).mono fun e W' ⟨he, hb⟩ => ?_
  subst he
  exact ⟨_, rfl, law_post Try.laidOut rfl (by kernel_rfl) Try.underlying4 ⟨rfl, rfl, rfl⟩ (by kernel_rfl) hW' hb⟩

theorem planBests_holds : Rows.PlanBestsSaid :=
  OpenClaim.holds_of_wide 5 Try.f5 rfl rfl rfl rfl rfl rfl rfl ⟨rfl, rfl, rfl, rfl, rfl⟩ rfl rfl rfl rfl rfl (by kernel_rfl) Try.func5 (show joinedFacts Try.prog 5 Try.f5 Rows.planBestsSpec Rows.planBestsRow = true from (by unfold joinedFacts; (repeat' (with_reducible refine and_both ?_ ?_)) <;> first | (with_reducible exact may_enter) | ((with_reducible refine make_ok ?_); rfl) | ((with_reducible refine lifts_ok ?_); rfl) | kernel_rfl))
    (of_decide_eq_true (by kernel_rfl)) (by unfold Func.isWrapper; rw [if_neg (of_decide_eq_false (by kernel_rfl))]; exact ⟨rfl, rfl⟩)
    (fun os started H enc _ => lawPlanBests_lifted os started H enc)

end Go.Proofs.Ythmcigdoaededaa
