/-
  For any tasks and any hands plan.Best tells no fewer turns than the highest level that plan.Levels tells, nor than all tasks by the hands; with as many hands as tasks just the highest level (Q1).
-/
import Derived.Test.YthmcigdoaededaaLawTasks
import Derived.Test.YthmcigdoaededaaPlanBest
namespace Go.Proofs.Ythmcigdoaededaa
open Go.RowKit Go.ChangeShapes Go.WideShapes Go.ChangeAt Go.Deep
set_option linter.unusedSimpArgs false
set_option linter.unusedVariables false
set_option maxRecDepth 100000

/-- with as many hands as tasks: the highest level -/
theorem all_level {n k : Nat} {ps : List (Nat × Nat)} (hk : TkOk n ps) (h : Fewest n n (fun a b => (a, b) ∈ ps) k) : moT ((List.range n).map (lvT n ps)) = k + 1 := by
  have h1 : ∀ x ∈ (List.range n).map (lvT n ps), x < k + 1 := fun x hx => by
    obtain ⟨i, hi, rfl⟩ := List.mem_map.1 hx
    obtain ⟨f, hf⟩ := h.can
    have := hk.lev.chain hf _ i (List.mem_range.1 hi) (Nat.le_refl _)
    omega
  have h2 := moT_le h1
  have h3 : ∀ i, i < n → lvT n ps i ≤ moT ((List.range n).map (lvT n ps)) - 1 := fun i hi => by
    have := moT_ge (List.mem_map.2 ⟨i, List.mem_range.2 hi, rfl⟩ : lvT n ps i ∈ (List.range n).map (lvT n ps))
    omega
  have h4 := h.least _ _ (sch_level hk.lev h3)
  have h5 := hk.lev.pos 0 hk.pos
  have h6 := h3 0 hk.pos
  omega

set_option maxHeartbeats 4000000 in
theorem lawPlanLevel_any (V : LevelsIs) (B : BestIs) (n : Int) (A : Option Addr) (cap : Nat) (l : List (Int × Int)) (m : Int) (w : World) (hx : RdM w w.heap.size A l) (hm : l.length ≤ maxLen) :
    Calls Try.prog 7 #[.int .i64 n, .slice A l.length cap, .int .i64 m] w fun e w' => e = .returned (.bool true) ∧ Below w.heap.size w w' := by
  obtain ⟨z, hz⟩ := tk_ex n l
  obtain ⟨len, hlen⟩ : ∃ len, l.length = len := ⟨_, rfl⟩
  have HL := Lib.hid hlen
  rw [hlen] at hm ⊢
  have HM := Lib.hid hm
  have HTK := Lib.hid (fun w hx => tasks_any n A len cap l z w hx hlen hm hz)
  clear hlen hm
  by_cases hc : z = 0
  · subst hc
    obtain ⟨k, ps, rfl, rfl, hok⟩ := hz.zero
    have HOK := Lib.hid hok
    have HPL : Hid (ps.length = len) := Lib.hid (by rw [← HL.out, mvI_len])
    have hk8 := hok.small
    have hk1 := hok.pos
    have ht : ((0 : Int) == 0) = true := rfl
    rw [ht] at HTK
    have HMO := Lib.hid (fun A c w hx => most_any A k c ((List.range k).map (lvT k ps)) w.heap.size w hx (by simp) (by unfold maxLen; omega) (fun x hx => by
      obtain ⟨i, hi, rfl⟩ := List.mem_map.1 hx
      have := HOK.out.lev_le (List.mem_range.1 hi)
      omega))
    clear hz hok ht
    go_enter Try.func7, Try.ntmps7
    go_wp2_with fail
    refine (V.ok k A len cap ps _ hx HPL.out HOK.out).mono ?_
    rintro e w1 ⟨⟨A1, c1, rfl, hrd⟩, hw1⟩
    have hx1 := (hx.below hw1 (Nat.le_refl _)).more hw1.size
    have HRD := Lib.hid hrd
    clear hrd
    go_wp2_with fail
    refine (HTK.out _ hx1).mono ?_
    rintro e w2 ⟨rfl, hw2⟩
    have hw12 : Below w.heap.size w w2 := hw1.trans (hw2.mono hw1.size)
    have HX2 := Lib.hid ((hx.below hw12 (Nat.le_refl _)).more hw12.size)
    have HRD2 := Lib.hid ((HRD.out.below hw2 (Nat.le_refl _)).more hw2.size)
    go_wp2_with fail
    refine (B.ok k A len cap ps k _ HX2.out HPL.out HOK.out hk1 hk8).mono ?_
    rintro e w3 ⟨⟨b, hb, rfl⟩, hw3⟩
    have hw13 : Below w.heap.size w w3 := hw12.trans (hw3.mono hw12.size)
    have HX3 := Lib.hid ((hx.below hw13 (Nat.le_refl _)).more hw13.size)
    have HRD3 := Lib.hid ((HRD2.out.below hw3 (Nat.le_refl _)).more hw3.size)
    have HBF := Lib.hid hb
    have HLV := Lib.hid (all_level HOK.out hb)
    have hb8 : b ≤ 8 := Nat.le_trans (hb.least k _ (sch_line HOK.out.lev hk1)) hk8
    clear hb
    by_cases hr : m < 1 ∨ 8 < m
    · have HR := Lib.hid hr
      go_wp2_with fail
      refine (B.range k A len cap ps m _ HX3.out HPL.out HOK.out HR.out).mono ?_
      rintro e w4 ⟨rfl, hw4⟩
      have HMO4 := Lib.hid (HMO.out A1 c1 w4 ((HRD3.out.below hw4 (Nat.le_refl _)).more hw4.size))
      rw [HLV.out] at HMO4
      have hcast : ((b + 1 : Nat) : Int) = (b : Int) + 1 := by omega
      rw [hcast] at HMO4
      clear hcast
      by_cases h1 : m < 1
      · clear hr
        go_wp2_with fail
        refine HMO4.out.mono ?_
        rintro e w5 ⟨rfl, rfl⟩
        go_wp2
        go_ret
        exact ⟨ret_bool (by simp), hw13.trans (hw4.mono hw13.size)⟩
      · have h2 : 8 < m := by omega
        clear hr
        go_wp2_with fail
        refine HMO4.out.mono ?_
        rintro e w5 ⟨rfl, rfl⟩
        go_wp2
        go_ret
        exact ⟨ret_bool (by simp), hw13.trans (hw4.mono hw13.size)⟩
    · obtain ⟨q, rfl⟩ : ∃ q : Nat, m = q := ⟨m.toNat, by omega⟩
      have hq1 : 1 ≤ q := by omega
      have hq8 : q ≤ 8 := by omega
      clear hr
      go_wp2_with fail
      refine (B.ok k A len cap ps q _ HX3.out HPL.out HOK.out hq1 hq8).mono ?_
      rintro e w4 ⟨⟨a, ha, rfl⟩, hw4⟩
      have hba : b ≤ a := by
        obtain ⟨f, hf⟩ := ha.can
        refine HBF.out.least a f ⟨hf.lt, hf.before, fun t => ?_⟩
        have := (List.filter_sublist (l := List.range k) (p := fun i => decide (f i = t))).length_le
        rwa [List.length_range] at this
      have hak : a ≤ k := ha.least _ _ (sch_line HOK.out.lev hq1)
      have hall : k ≤ a * q := by
        obtain ⟨f, hf⟩ := ha.can
        rw [Nat.mul_comm]
        exact hf.all
      have haq : a * q ≤ 64 := Nat.mul_le_mul (by omega : a ≤ 8) hq8
      have hwq : IntKind.i64.wrap ((a : Int) * (q : Int)) = ((a * q : Nat) : Int) := by
        rw [← Int.natCast_mul]
        exact IntWalk.i64_in _ ⟨by omega, by omega⟩
      have HMO4 := Lib.hid (HMO.out A1 c1 w4 ((HRD3.out.below hw4 (Nat.le_refl _)).more hw4.size))
      rw [HLV.out] at HMO4
      have hcast : ((b + 1 : Nat) : Int) = (b : Int) + 1 := by omega
      rw [hcast] at HMO4
      obtain ⟨aq, haqe⟩ : ∃ x, a * q = x := ⟨_, rfl⟩
      rw [haqe] at hall haq hwq
      clear hcast ha haqe
      go_wp2_with (go_at_call 22; (with_reducible refine HMO4.out.mono ?_); rintro e w5 ⟨rfl, rfl⟩)
      go_ret
      exact ⟨ret_bool (by simp), hw13.trans (hw4.mono hw13.size)⟩
  · have hne : (z == 0) = false := by simpa using hc
    have hne2 : (z != 0) = true := by simpa using hc
    have HZ := Lib.hid hz
    have HC := Lib.hid hc
    rw [hne] at HTK
    clear hz hc
    go_enter Try.func7, Try.ntmps7
    go_wp2_with fail
    refine (V.bad n A len cap l z _ hx HL.out HM.out HZ.out HC.out).mono ?_
    rintro e w1 ⟨rfl, hw1⟩
    have hx1 := (hx.below hw1 (Nat.le_refl _)).more hw1.size
    go_wp2_with fail
    refine (HTK.out _ hx1).mono ?_
    rintro e w2 ⟨rfl, hw2⟩
    go_wp2
    go_ret
    exact ⟨ret_bool (by simp), hw1.trans (hw2.mono hw1.size)⟩

set_option maxRecDepth 100000 in
theorem lawPlanLevel_lifted (os : Os) (started : os.Started) (H : Type) (enc : TypeId × Value → H) :
    ReturnsInHanded {} Try.checked os 7 .any (Rows.planLevelSpec.pre6 enc Try.prog Try.f7 Rows.planLevelRow.domain false) (Rows.planLevelSpec.post enc Try.prog Try.f7 false true false false) := by
  refine returnsInHanded_of_change_sized (C := Try.checked) Try.own started (by kernel_rfl) Try.func7
    (ChangeSpec.witness6 (enc := enc) (C := Try.checked) false ⟨#[], #[.int .i64 0, .slice none 0 0, .int .i64 0], []⟩ 8 (by kernel_rfl) (by kernel_rfl) (by kernel_rfl) (by kernel_rfl)) ?_
  intro W base args ds gs before hval0 hW hcnd hsz _
  have hval : ∀ (j : Nat) t v, Try.f7.params[j]? = some t → args[j]? = some v → Value.okWide Try.prog W .any base t v := hval0
  have hW' := hW
  obtain ⟨p, q, hA0, hV, rfl, hfz, hnd⟩ := hW
  have hA : DataW.TrodAll enc Try.prog W 0 (fun _ => true) true Try.f7.params.toList args.toList ds p := hA0
  obtain ⟨hgs, _⟩ := trodVars_none hV
  rw [Try.params7] at hA hval
  obtain ⟨v0, vs0, d0, ds0, p0, q0, hargs, rfl, rfl, h0, r0⟩ := trodAll_cons hA
  obtain ⟨v1, vs1, d1, ds1, p1, q1, rfl, rfl, rfl, h1, r1⟩ := trodAll_cons r0
  obtain ⟨v2, vs2, d2, ds2, p2, q2, rfl, rfl, rfl, h2, r2⟩ := trodAll_cons r1
  obtain ⟨rfl, rfl, rfl⟩ := trodAll_nil r2
  have hargs2 : args = #[v0, v1, v2] := Array.toList_inj.1 hargs
  subst hargs2
  obtain ⟨a0, rfl, _, _, w0⟩ := open_int Try.underlying3 (hval 0 3 v0 rfl rfl) h0
  obtain ⟨A1, c1, l1, rfl, lc1, cm1, x1, r1⟩ := open_pairsA (hval 1 22 v1 rfl rfl) h1
  have b1 := len_reach Try.underlying22 (hval 1 22 _ rfl rfl) h1 hsz (j := 1) (by rw [Try.params7]; rfl) rfl
  rw [show Try.prog.bytesOf (Try.prog.elem 22) = 16 from by kernel_rfl] at b1
  obtain ⟨a2, rfl, _, _, w2⟩ := open_int Try.underlying3 (hval 2 3 v2 rfl rfl) h2
  refine (lawPlanLevel_any levelsIs bestIs a0 A1 c1 l1 a2 _ x1 (by omega)).mono fun e W' ⟨he, hb⟩ => ?_
  subst he
  exact ⟨_, rfl, law_post Try.laidOut rfl (by kernel_rfl) Try.underlying4 ⟨rfl, rfl, rfl⟩ (by kernel_rfl) hW' hb⟩

theorem planLevel_holds : Rows.PlanLevelSaid :=
  OpenClaim.holds_of_wide 7 Try.f7 rfl rfl rfl rfl rfl rfl rfl ⟨rfl, rfl, rfl, rfl, rfl⟩ rfl rfl rfl rfl rfl (by kernel_rfl) Try.func7 (show joinedFacts Try.prog 7 Try.f7 Rows.planLevelSpec Rows.planLevelRow = true from (by unfold joinedFacts; (repeat' (with_reducible refine and_both ?_ ?_)) <;> first | (with_reducible exact may_enter) | ((with_reducible refine make_ok ?_); rfl) | ((with_reducible refine lifts_ok ?_); rfl) | kernel_rfl))
    (of_decide_eq_true (by kernel_rfl)) (by unfold Func.isWrapper; rw [if_neg (of_decide_eq_false (by kernel_rfl))]; exact ⟨rfl, rfl⟩)
    (fun os started H enc _ => lawPlanLevel_lifted os started H enc)

end Go.Proofs.Ythmcigdoaededaa
