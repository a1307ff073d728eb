/-
  stack.Run returns the stack that C1 gives, or the first error, for all arguments: codemasonlaw.StackRuns returns true and leaves its arguments alone. No condition.
-/
import Derived.Test.YtppnckiedcbleaaLawStack
namespace Go.Proofs.Ytppnckiedcbleaa
open Go.RowKit Go.ChangeShapes Go.WideShapes Go.ChangeAt Go.Deep
set_option linter.unusedSimpArgs false
set_option linter.unusedVariables false
set_option maxRecDepth 100000

set_option maxHeartbeats 2000000 in
theorem lawStackRuns_any (vars : Int) (A : Option Addr) (cap : Nat) (c : List So) (HA : Option Addr) (hcap : Nat) (xs : List Int) (w : World) (hx : RdO w w.heap.size A c) (hh : RdI w w.heap.size HA xs) (hhm : xs.length ≤ maxLen) :
    Calls Try.prog 17 #[.int .i64 vars, .slice A c.length cap, .slice HA xs.length hcap] w fun e w' => e = .returned (.bool true) ∧ Below w.heap.size w w' := by
  by_cases hk : ckStk vars c = 0
  · obtain ⟨v0, v6, c40, hcf⟩ := ckStk_ok hk
    have HK := Lib.hid hk
    have HF := Lib.hid hcf
    by_cases hv : ckHave vars xs = 0
    · have HV := Lib.hid hv
      have HM : Hid ((stkF xs c []).length ≤ maxLen) := Lib.hid (by
        have hl : ∀ (r : List So) (s : List Int), (stkF xs r s).length ≤ s.length + r.length := by
          intro r
          induction r with
          | nil => intro s; simp [stkF]
          | cons t r ih =>
            intro s
            rw [stkF]
            have h1 := ih (stkStep xs t s)
            have h2 : (stkStep xs t s).length ≤ s.length + 1 := by
              unfold stkStep
              (repeat' split) <;> simp <;> omega
            rw [List.length_cons]
            omega
        have := hl c []
        unfold maxLen
        simp at this
        omega)
      clear hk hcf hv
      go_enter Try.func17, Try.ntmps17
      go_wp2_with fail
      refine (srun_ok vars A HA _ cap hcap c xs _ hx hh rfl HK.out HV.out).mono ?_
      rintro e w1 ⟨A1, c1, rfl, hr1, hb1⟩
      go_wp2_with fail
      refine (stackCode_any vars A _ cap c _ ((hx.below hb1 (Nat.le_refl _)).more hb1.size) rfl).mono ?_
      rintro e w2 ⟨rfl, hb2⟩
      rw [HK.out]
      have hbw := hb1.trans (hb2.mono hb1.size)
      have hr2 := (hr1.below hb2 (Nat.le_refl _)).more hb2.size
      go_wp2_with fail
      refine (haveCheck_any vars HA _ hcap xs _ _ (hh.below hbw (Nat.le_refl _)) rfl hhm).mono ?_
      rintro e w3 ⟨rfl, rfl⟩
      rw [HV.out]
      go_wp2_with fail
      refine (refStack_any vars A HA _ cap hcap c xs _ ((hx.below hbw (Nat.le_refl _)).more hbw.size) ((hh.below hbw (Nat.le_refl _)).more hbw.size) rfl v0 c40 HF.out HV.out).mono ?_
      rintro e w3 ⟨A3, c3, rfl, hr3, hb3⟩
      have hr2' := (hr2.below hb3 (Nat.le_refl _)).more hb3.size
      have HM' := HM.out
      generalize hg : stkF xs c [] = st at *
      clear hg
      generalize hn : st.length = n at *
      have HN := Lib.hid hn
      clear hn
      go_wp2_with fail
      refine (ints_same A1 A3 n c1 c3 st _ hr2' hr3 HN.out HM').mono ?_
      rintro e w4 ⟨rfl, hb4⟩
      go_wp2_with fail
      go_ret
      exact ⟨ret_bool (by simp), hbw.trans ((hb3.mono hbw.size).trans (hb4.mono (Nat.le_trans hbw.size hb3.size)))⟩
    · have e2 : ckSRun vars c xs = ckHave vars xs := by unfold ckSRun; rw [if_pos hk]
      have HC := Lib.hid e2
      have HN : Hid (ckSRun vars c xs ≠ 0) := Lib.hid (by rw [e2]; exact hv)
      have e3 : (ckHave vars xs != 0) = true := by simp [hv]
      clear hk hcf hv e2
      go_enter Try.func17, Try.ntmps17
      go_wp2_with fail
      refine (srun_bad vars A HA _ cap hcap c xs _ hx hh rfl hhm HN.out).mono ?_
      rintro e w1 ⟨rfl, hb1⟩
      rw [HC.out]
      go_wp2_with fail
      refine (stackCode_any vars A _ cap c _ ((hx.below hb1 (Nat.le_refl _)).more hb1.size) rfl).mono ?_
      rintro e w2 ⟨rfl, hb2⟩
      rw [HK.out]
      have hbw := hb1.trans (hb2.mono hb1.size)
      go_wp2_with fail
      refine (haveCheck_any vars HA _ hcap xs _ _ (hh.below hbw (Nat.le_refl _)) rfl hhm).mono ?_
      rintro e w3 ⟨rfl, rfl⟩
      go_wp2_with fail
      go_ret
      exact ⟨ret_bool (by simp), hbw⟩
  · have e2 : ckSRun vars c xs = ckStk vars c := by unfold ckSRun; rw [if_neg hk]
    have HC := Lib.hid e2
    have HN : Hid (ckSRun vars c xs ≠ 0) := Lib.hid (by rw [e2]; exact hk)
    have e3 : (ckStk vars c != 0) = true := by simp [hk]
    have e4 : (ckStk vars c == 0) = false := by simp [hk]
    clear hk e2
    go_enter Try.func17, Try.ntmps17
    go_wp2_with fail
    refine (srun_bad vars A HA _ cap hcap c xs _ hx hh rfl hhm HN.out).mono ?_
    rintro e w1 ⟨rfl, hb1⟩
    rw [HC.out]
    go_wp2_with fail
    refine (stackCode_any vars A _ cap c _ ((hx.below hb1 (Nat.le_refl _)).more hb1.size) rfl).mono ?_
    rintro e w2 ⟨rfl, hb2⟩
    go_wp2_with fail
    go_ret
    exact ⟨ret_bool (by simp), hb1.trans (hb2.mono hb1.size)⟩

set_option maxRecDepth 100000 in
theorem lawStackRuns_lifted (os : Os) (started : os.Started) (H : Type) (enc : TypeId × Value → H) :
    ReturnsInHanded {} Try.checked os 17 .any (Rows.stackRunsSpec.pre6 enc Try.prog Try.f17 Rows.stackRunsRow.domain false) (Rows.stackRunsSpec.post enc Try.prog Try.f17 false true false false) := by
  refine returnsInHanded_of_change_sized (C := Try.checked) Try.own started (by kernel_rfl) Try.func17
    (ChangeSpec.witness6 (enc := enc) (C := Try.checked) false ⟨#[], #[.int .i64 0, .slice none 0 0, .slice none 0 0], []⟩ 8 (by kernel_rfl) (by kernel_rfl) (by kernel_rfl) (by kernel_rfl)) ?_
  intro W base args ds gs before hval0 hW hcnd hsz _
  have hval : ∀ (j : Nat) t v, Try.f17.params[j]? = some t → args[j]? = some v → Value.okWide Try.prog W .any base t v := hval0
  have hW' := hW
  obtain ⟨p, q, hA0, hV, rfl, hfz, hnd⟩ := hW
  have hA : DataW.TrodAll enc Try.prog W 0 (fun _ => true) true Try.f17.params.toList args.toList ds p := hA0
  obtain ⟨hgs, _⟩ := trodVars_none hV
  rw [Try.params17] at hA hval
  obtain ⟨v0, vs0, d0, ds0, p0, q0, hargs, rfl, rfl, h0, r0⟩ := trodAll_cons hA
  obtain ⟨v1, vs1, d1, ds1, p1, q1, rfl, rfl, rfl, h1, r1⟩ := trodAll_cons r0
  obtain ⟨v2, vs2, d2, ds2, p2, q2, rfl, rfl, rfl, h2, r2⟩ := trodAll_cons r1
  obtain ⟨rfl, rfl, rfl⟩ := trodAll_nil r2
  have hargs2 : args = #[v0, v1, v2] := Array.toList_inj.1 hargs
  subst hargs2
  obtain ⟨a0, rfl, _, _, w0⟩ := open_int Try.underlying3 (hval 0 3 v0 rfl rfl) h0
  obtain ⟨A1, c1, l1, rfl, lc1, cm1, x1, r1⟩ := open_sopsA (hval 1 66 v1 rfl rfl) h1
  have b1 := len_reach Try.underlying66 (hval 1 66 _ rfl rfl) h1 hsz (j := 1) (by rw [Try.params17]; rfl) rfl
  rw [show Try.prog.bytesOf (Try.prog.elem 66) = 16 from by kernel_rfl] at b1
  obtain ⟨A2, c2, l2, rfl, lc2, cm2, x2, r2⟩ := open_intsA (hval 2 26 v2 rfl rfl) h2
  have b2 := len_reach Try.underlying26 (hval 2 26 _ rfl rfl) h2 hsz (j := 2) (by rw [Try.params17]; rfl) rfl
  rw [show Try.prog.bytesOf (Try.prog.elem 26) = 8 from by kernel_rfl] at b2
  refine (lawStackRuns_any a0 A1 c1 l1 A2 c2 l2 W x1 x2 (by omega)).mono fun e W' ⟨he, hb⟩ => ?_
  subst he
  exact ⟨_, rfl, law_post Try.laidOut rfl (by kernel_rfl) Try.underlying4 ⟨rfl, rfl, rfl⟩ (by kernel_rfl) hW' hb⟩

theorem stackRuns_holds : Rows.StackRunsSaid :=
  OpenClaim.holds_of_wide 17 Try.f17 rfl rfl rfl rfl rfl rfl rfl ⟨rfl, rfl, rfl, rfl, rfl⟩ rfl rfl rfl rfl rfl (by kernel_rfl) Try.func17 (show joinedFacts Try.prog 17 Try.f17 Rows.stackRunsSpec Rows.stackRunsRow = true from (by unfold joinedFacts; (repeat' (with_reducible refine and_both ?_ ?_)) <;> first | (with_reducible exact may_enter) | ((with_reducible refine make_ok ?_); rfl) | ((with_reducible refine lifts_ok ?_); rfl) | kernel_rfl))
    (of_decide_eq_true (by kernel_rfl)) (by unfold Func.isWrapper; rw [if_neg (of_decide_eq_false (by kernel_rfl))]; exact ⟨rfl, rfl⟩)
    (fun os started H enc _ => lawStackRuns_lifted os started H enc)

end Go.Proofs.Ytppnckiedcbleaa
