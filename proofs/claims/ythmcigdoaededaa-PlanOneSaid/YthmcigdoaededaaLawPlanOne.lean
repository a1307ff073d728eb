/-
  For any tasks plan.Best tells with one hand as many turns as there are tasks, and with one more hand no more (Q1).
-/
import Derived.Test.YthmcigdoaededaaLawTasks
import Derived.Test.YthmcigdoaededaaPlanBest
namespace Go.Proofs.Ythmcigdoaededaa
open Go.RowKit Go.ChangeShapes Go.WideShapes Go.ChangeAt Go.Deep
set_option linter.unusedSimpArgs false
set_option linter.unusedVariables false
set_option maxRecDepth 100000

theorem one_all {n k : Nat} {ps : List (Nat × Nat)} (hk : TkOk n ps) (h : Fewest n 1 (fun a b => (a, b) ∈ ps) k) : k = n := by
  obtain ⟨f, hf⟩ := h.can
  have h1 := hf.all
  have h2 := h.least _ _ (sch_line hk.lev (Nat.le_refl 1))
  omega

set_option maxHeartbeats 4000000 in
theorem lawPlanOne_any (B : BestIs) (n : Int) (A : Option Addr) (cap : Nat) (l : List (Int × Int)) (m : Int) (w : World) (hx : RdM w w.heap.size A l) (hm : l.length ≤ maxLen) :
    Calls Try.prog 9 #[.int .i64 n, .slice A l.length cap, .int .i64 m] w fun e w' => e = .returned (.bool true) ∧ Below w.heap.size w w' := by
  obtain ⟨z, hz⟩ := tk_ex n l
  obtain ⟨len, hlen⟩ : ∃ len, l.length = len := ⟨_, rfl⟩
  have HL := Lib.hid hlen
  rw [hlen] at hm ⊢
  have HM := Lib.hid hm
  have HTK := Lib.hid (fun w hx => tasks_any n A len cap l z w hx hlen hm hz)
  clear hlen hm
  by_cases hc : z = 0
  · subst hc
    obtain ⟨k, ps, rfl, rfl, hok⟩ := hz.zero
    have HOK := Lib.hid hok
    have HPL : Hid (ps.length = len) := Lib.hid (by rw [← HL.out, mvI_len])
    have hk8 := hok.small
    have ht : ((0 : Int) == 0) = true := rfl
    rw [ht] at HTK
    clear hz hok ht
    go_enter Try.func9, Try.ntmps9
    go_wp2_with fail
    refine (B.ok k A len cap ps 1 _ hx HPL.out HOK.out (Nat.le_refl 1) (by omega)).mono ?_
    rintro e w1 ⟨⟨b1, hb1, rfl⟩, hw1⟩
    obtain rfl := one_all HOK.out hb1
    have hx1 := (hx.below hw1 (Nat.le_refl _)).more hw1.size
    clear hb1
    go_wp2_with fail
    refine (HTK.out _ hx1).mono ?_
    rintro e w2 ⟨rfl, hw2⟩
    have hw12 : Below w.heap.size w w2 := hw1.trans (hw2.mono hw1.size)
    by_cases hr : m < 1 ∨ 8 ≤ m
    · by_cases h1 : m < 1
      · clear hr
        go_wp2
        go_ret
        exact ⟨ret_bool (by simp), hw12⟩
      · have h2 : 8 ≤ m := by omega
        clear hr
        go_wp2
        go_ret
        exact ⟨ret_bool (by simp), hw12⟩
    · obtain ⟨q, rfl⟩ : ∃ q : Nat, m = q := ⟨m.toNat, by omega⟩
      have hq1 : 1 ≤ q := by omega
      have hq8 : q < 8 := by omega
      have HX2 := Lib.hid ((hx.below hw12 (Nat.le_refl _)).more hw12.size)
      clear hr
      go_wp2_with fail
      refine (B.ok b1 A len cap ps q _ HX2.out HPL.out HOK.out hq1 (by omega)).mono ?_
      rintro e w3 ⟨⟨a, ha, rfl⟩, hw3⟩
      have hw13 : Below w.heap.size w w3 := hw12.trans (hw3.mono hw12.size)
      have HX3 := Lib.hid ((hx.below hw13 (Nat.le_refl _)).more hw13.size)
      have HA := Lib.hid ha
      clear ha
      have HB2 := Lib.hid (B.ok b1 A len cap ps (q + 1) _ HX3.out HPL.out HOK.out (by omega) (by omega))
      have hcast : ((q + 1 : Nat) : Int) = (q : Int) + 1 := by omega
      rw [hcast] at HB2
      go_wp2_with fail
      refine HB2.out.mono ?_
      rintro e w4 ⟨⟨b, hb, rfl⟩, hw4⟩
      have hba : b ≤ a := HA.out.more hb (Nat.le_succ q)
      clear hb hcast
      go_wp2
      go_ret
      exact ⟨ret_bool (by simp), hw13.trans (hw4.mono hw13.size)⟩
  · have hne : (z == 0) = false := by simpa using hc
    have hne2 : (z != 0) = true := by simpa using hc
    have HZ := Lib.hid hz
    have HC := Lib.hid hc
    rw [hne] at HTK
    clear hz hc
    go_enter Try.func9, Try.ntmps9
    go_wp2_with fail
    refine (B.bad n A len cap l 1 z _ hx HL.out HM.out HZ.out HC.out).mono ?_
    rintro e w1 ⟨rfl, hw1⟩
    have hx1 := (hx.below hw1 (Nat.le_refl _)).more hw1.size
    go_wp2_with fail
    refine (HTK.out _ hx1).mono ?_
    rintro e w2 ⟨rfl, hw2⟩
    go_wp2
    go_ret
    exact ⟨ret_bool (by simp), hw1.trans (hw2.mono hw1.size)⟩

set_option maxRecDepth 100000 in
theorem lawPlanOne_lifted (os : Os) (started : os.Started) (H : Type) (enc : TypeId × Value → H) :
    ReturnsInHanded {} Try.checked os 9 .any (Rows.planOneSpec.pre6 enc Try.prog Try.f9 Rows.planOneRow.domain false) (Rows.planOneSpec.post enc Try.prog Try.f9 false true false false) := by
  refine returnsInHanded_of_change_sized (C := Try.checked) Try.own started (by kernel_rfl) Try.func9
    (ChangeSpec.witness6 (enc := enc) (C := Try.checked) false ⟨#[], #[.int .i64 0, .slice none 0 0, .int .i64 0], []⟩ 8 (by kernel_rfl) (by kernel_rfl) (by kernel_rfl) (by kernel_rfl)) ?_
  intro W base args ds gs before hval0 hW hcnd hsz _
  have hval : ∀ (j : Nat) t v, Try.f9.params[j]? = some t → args[j]? = some v → Value.okWide Try.prog W .any base t v := hval0
  have hW' := hW
  obtain ⟨p, q, hA0, hV, rfl, hfz, hnd⟩ := hW
  have hA : DataW.TrodAll enc Try.prog W 0 (fun _ => true) true Try.f9.params.toList args.toList ds p := hA0
  obtain ⟨hgs, _⟩ := trodVars_none hV
  rw [Try.params9] at hA hval
  obtain ⟨v0, vs0, d0, ds0, p0, q0, hargs, rfl, rfl, h0, r0⟩ := trodAll_cons hA
  obtain ⟨v1, vs1, d1, ds1, p1, q1, rfl, rfl, rfl, h1, r1⟩ := trodAll_cons r0
  obtain ⟨v2, vs2, d2, ds2, p2, q2, rfl, rfl, rfl, h2, r2⟩ := trodAll_cons r1
  obtain ⟨rfl, rfl, rfl⟩ := trodAll_nil r2
  have hargs2 : args = #[v0, v1, v2] := Array.toList_inj.1 hargs
  subst hargs2
  obtain ⟨a0, rfl, _, _, w0⟩ := open_int Try.underlying3 (hval 0 3 v0 rfl rfl) h0
  obtain ⟨A1, c1, l1, rfl, lc1, cm1, x1, r1⟩ := open_pairsA (hval 1 22 v1 rfl rfl) h1
  have b1 := len_reach Try.underlying22 (hval 1 22 _ rfl rfl) h1 hsz (j := 1) (by rw [Try.params9]; rfl) rfl
  rw [show Try.prog.bytesOf (Try.prog.elem 22) = 16 from by kernel_rfl] at b1
  obtain ⟨a2, rfl, _, _, w2⟩ := open_int Try.underlying3 (hval 2 3 v2 rfl rfl) h2
  refine (lawPlanOne_any bestIs a0 A1 c1 l1 a2 _ x1 (by omega)).mono fun e W' ⟨he, hb⟩ => ?_
  subst he
  exact ⟨_, rfl, law_post Try.laidOut rfl (by kernel_rfl) Try.underlying4 ⟨rfl, rfl, rfl⟩ (by kernel_rfl) hW' hb⟩

theorem planOne_holds : Rows.PlanOneSaid :=
  OpenClaim.holds_of_wide 9 Try.f9 rfl rfl rfl rfl rfl rfl rfl ⟨rfl, rfl, rfl, rfl, rfl⟩ rfl rfl rfl rfl rfl (by kernel_rfl) Try.func9 (show joinedFacts Try.prog 9 Try.f9 Rows.planOneSpec Rows.planOneRow = true from (by unfold joinedFacts; (repeat' (with_reducible refine and_both ?_ ?_)) <;> first | (with_reducible exact may_enter) | ((with_reducible refine make_ok ?_); rfl) | ((with_reducible refine lifts_ok ?_); rfl) | kernel_rfl))
    (of_decide_eq_true (by kernel_rfl)) (by unfold Func.isWrapper; rw [if_neg (of_decide_eq_false (by kernel_rfl))]; exact ⟨rfl, rfl⟩)
    (fun os started H enc _ => lawPlanOne_lifted os started H enc)

end Go.Proofs.Ythmcigdoaededaa
