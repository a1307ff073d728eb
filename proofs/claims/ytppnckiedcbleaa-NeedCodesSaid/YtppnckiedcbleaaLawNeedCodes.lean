/-
  need.Code returns register code that computes the tree with the given registers, or the first error, for all arguments: codemasonlaw.NeedCodes returns true and leaves its arguments alone. No condition.
-/
import Derived.Test.YtppnckiedcbleaaLawTree
import Derived.Test.YtppnckiedcbleaaRun
import Derived.Deep.RegionWith
import Derived.Deep.QuietTactic
import Derived.BigQuiet
namespace Go.Proofs.Ytppnckiedcbleaa
open Go.RowKit Go.ChangeShapes Go.WideShapes Go.ChangeAt Go.Deep
set_option linter.unusedSimpArgs false
set_option linter.unusedVariables false
set_option maxRecDepth 100000

theorem ckHave_34 {vars : Int} {xs : List Int} (h : ¬ ckHave vars xs = 0) : ckHave vars xs = 3 ∨ ckHave vars xs = 4 := by
  unfold ckHave ckVals at *
  (repeat' split at *) <;> omega

set_option maxHeartbeats 4000000 in
theorem codes_regs (vars : Int) (A : Option Addr) (cap : Nat) (l : List Tm) (regs : Int) (HA : Option Addr) (hcap : Nat) (xs : List Int) (w : World) (hx : RdT w w.heap.size A l) (hh : RdI w w.heap.size HA xs) (hhm : xs.length ≤ maxLen) (hr : regs < 1 ∨ 8 < regs) :
    Calls Try.prog 11 #[.int .i64 vars, .slice A l.length cap, .int .i64 regs, .slice HA xs.length hcap] w fun e w' => e = .returned (.bool true) ∧ Below w.heap.size w w' := by
  have HCC : Hid (ckCode vars l regs = 1) := Lib.hid (by unfold ckCode; rw [if_pos hr])
  have HCN : Hid (ckCode vars l regs ≠ 0) := Lib.hid (by rw [HCC.out]; omega)
  rcases hr with hr | hr
  all_goals
    have hr' : ¬ regs < 1 ∨ regs < 1 := by omega
    go_enter Try.func11, Try.ntmps11
    go_wp2_with fail
    refine (code_bad vars regs A _ cap l _ hx rfl HCN.out).mono ?_
    rintro e w1 ⟨rfl, hb1⟩
    rw [HCC.out]
    go_wp2_with fail
    refine (treeCode_any vars A _ cap l _ ((hx.below hb1 (Nat.le_refl _)).more hb1.size) rfl).mono ?_
    rintro e w2 ⟨rfl, hb2⟩
    have hbw := hb1.trans (hb2.mono hb1.size)
    go_wp2_with fail
    all_goals
      go_ret
      exact ⟨ret_bool (by simp), hbw⟩

set_option maxHeartbeats 4000000 in
theorem codes_few (vars : Int) (A : Option Addr) (cap : Nat) (l : List Tm) (regs : Int) (HA : Option Addr) (hcap : Nat) (xs : List Int) (w : World) (hx : RdT w w.heap.size A l) (hh : RdI w w.heap.size HA xs) (hhm : xs.length ≤ maxLen) (hr1 : 1 ≤ regs) (hr2 : regs ≤ 8) (ht : ckTree vars l = 0) (hn : regs < (ndA l (l.length - 1) : Int)) :
    Calls Try.prog 11 #[.int .i64 vars, .slice A l.length cap, .int .i64 regs, .slice HA xs.length hcap] w fun e w' => e = .returned (.bool true) ∧ Below w.heap.size w w' := by
  have HT := Lib.hid ht
  obtain ⟨hck, _, htl⟩ := ckTree_ok ht
  have HCK := Lib.hid hck
  obtain ⟨b1, b2, b3, b4⟩ := ckTerms_bd hck
  have hnr : needR vars l = (ndA l (l.length - 1) : Int) := by unfold needR; rw [if_pos ht]
  have hcv : (l.length : Int) - 1 = ((l.length - 1 : Nat) : Int) := by omega
  have HCC : Hid (ckCode vars l regs = 5) := Lib.hid (by unfold ckCode; rw [if_neg (by omega), if_pos ht, if_pos (by omega)])
  have HCN : Hid (ckCode vars l regs ≠ 0) := Lib.hid (by rw [HCC.out]; omega)
  clear ht hck htl hnr
  go_enter Try.func11, Try.ntmps11
  go_wp2_with fail
  refine (code_bad vars regs A _ cap l _ hx rfl HCN.out).mono ?_
  rintro e w1 ⟨rfl, hb1⟩
  rw [HCC.out]
  go_wp2_with fail
  refine (treeCode_any vars A _ cap l _ ((hx.below hb1 (Nat.le_refl _)).more hb1.size) rfl).mono ?_
  rintro e w2 ⟨rfl, hb2⟩
  rw [HT.out]
  have hbw := hb1.trans (hb2.mono hb1.size)
  go_wp2_with fail
  refine (refNeed_any vars A cap l HCK.out (l.length - 1) (by omega) _ ((hx.below hbw (Nat.le_refl _)).more hbw.size)).mono ?_
  rintro e w3 ⟨rfl, rfl⟩
  go_wp2_with fail
  go_ret
  exact ⟨ret_bool (by simp), hbw⟩

set_option maxHeartbeats 4000000 in
theorem codes_val (vars : Int) (A : Option Addr) (cap : Nat) (l : List Tm) (regs : Int) (HA : Option Addr) (hcap : Nat) (xs : List Int) (w : World) (hx : RdT w w.heap.size A l) (hh : RdI w w.heap.size HA xs) (hhm : xs.length ≤ maxLen) (hr1 : 1 ≤ regs) (hr2 : regs ≤ 8) (ht : ckTree vars l = 0) (hn : ¬ regs < (ndA l (l.length - 1) : Int)) (hv : ckHave vars xs = 0) :
    Calls Try.prog 11 #[.int .i64 vars, .slice A l.length cap, .int .i64 regs, .slice HA xs.length hcap] w fun e w' => e = .returned (.bool true) ∧ Below w.heap.size w w' := by
  have HT := Lib.hid ht
  obtain ⟨hck, _, htl⟩ := ckTree_ok ht
  have HCK := Lib.hid hck
  obtain ⟨b1, b2, b3, b4⟩ := ckTerms_bd hck
  have hnr : needR vars l = (ndA l (l.length - 1) : Int) := by unfold needR; rw [if_pos ht]
  have hcv : (l.length : Int) - 1 = ((l.length - 1 : Nat) : Int) := by omega
  obtain ⟨rn, rfl⟩ := Int.eq_ofNat_of_zero_le (a := regs) (by omega)
  have HCC : Hid (ckCode vars l rn = 0) := Lib.hid (by unfold ckCode; rw [if_neg (by omega), if_pos ht, if_neg (by omega)])
  have HSC : Hid (ckSteps vars (codeL l) rn = 0) := Lib.hid (code_ok hck htl (by omega) (by omega))
  have HCL : Hid ((codeL l).length = l.length) := Lib.hid (code_len hck htl)
  have HRV : Hid ((runS (codeL l) rn xs)[0]? = some (valT l xs)) := Lib.hid (code_run xs hck (by omega))
  have hrn : 0 < rn := by omega
  have hn' : (ndA l (l.length - 1) : Int) ≤ rn := by omega
  clear ht hck htl hnr hn
  have HNE : Hid (∀ w : World, RdT w w.heap.size A l → Calls Try.prog 41 #[.slice A l.length cap, .int .i64 ((l.length - 1 : Nat) : Int)] w fun e w' => e = .returned (.int .i64 (ndA l (l.length - 1) : Nat)) ∧ w = w') :=
    Lib.hid fun w hx => refNeed_any vars A cap l HCK.out (l.length - 1) (by omega) w hx
  generalize hl : l.length = len at *
  have HL := Lib.hid hl
  clear hl
  generalize ndA l (len - 1) = nd at *
  have HV := Lib.hid hv
  clear hv
  go_enter Try.func11, Try.ntmps11
  go_wp2_with fail
  refine (code_ok_any vars rn A _ cap l _ hx HL.out HCC.out).mono ?_
  rintro e w1 ⟨A1, c1, rfl, hr1, hb1⟩
  go_wp2_with fail
  refine (treeCode_any vars A _ cap l _ ((hx.below hb1 (Nat.le_refl _)).more hb1.size) HL.out).mono ?_
  rintro e w2 ⟨rfl, hb2⟩
  rw [HT.out]
  have hbw := hb1.trans (hb2.mono hb1.size)
  have hr2 := (hr1.below hb2 (Nat.le_refl _)).more hb2.size
  clear hr1 hb1 hb2
  go_wp2_with fail
  refine (HNE.out _ ((hx.below hbw (Nat.le_refl _)).more hbw.size)).mono ?_
  rintro e w3 ⟨rfl, rfl⟩
  go_wp2_with fail
  refine (stepsCheck_any vars rn A1 len c1 (codeL l) _ hr2 HCL.out).mono ?_
  rintro e w4 ⟨rfl, hb4⟩
  rw [HSC.out]
  have hbw4 := hbw.trans (hb4.mono hbw.size)
  have hr4 := (hr2.below hb4 (Nat.le_refl _)).more hb4.size
  have hx4 := (hx.below hbw4 (Nat.le_refl _)).more hbw4.size
  have hh4 := (hh.below hbw4 (Nat.le_refl _)).more hbw4.size
  have hs4 := hbw4.size
  clear hbw hb4 hr2
  obtain ⟨wo, rfl⟩ : ∃ x, x = w4 := ⟨_, rfl⟩
  go_wp2_with fail
  go_region_with (first
    | (go_at_call 31; (with_reducible refine (haveCheck_any vars HA _ hcap xs wo.heap.size _ ?_ rfl hhm).mono ?_); (· exact hh4); rintro e w5 ⟨rfl, rfl⟩; rw [HV.out])
    | (go_at_call 44; (with_reducible refine (refSteps_any vars rn A1 HA len c1 hcap (codeL l) xs _ ?_ ?_ HCL.out HSC.out HV.out).mono ?_); (· exact hr4); (· exact hh4); rintro e w5 ⟨rfl, hown5, hb5⟩; have hc5 : w5.cell? ⟨wo.heap.size, 0, none⟩ = some (.int .i64 (valT l xs)) := hown5.cell (iv_at (j := 0) HRV.out); have hx5 : RdT w5 w5.heap.size A l := (RdT.below (show RdT wo.drew wo.drew.heap.size A l from hx4) hb5 (Nat.le_refl _)).more hb5.size; have hh5 : RdI w5 w5.heap.size HA xs := (RdI.below (show RdI wo.drew wo.drew.heap.size HA xs from hh4) hb5 (Nat.le_refl _)).more hb5.size; have hl5 := hown5.lt; have hs5 := hb5.size)
    | (go_at_call 27; (with_reducible refine (refTerm_any vars A HA len cap hcap l xs _ hx5 hh5 HL.out HCK.out HV.out).mono ?_); rintro e w6 ⟨rfl, hb6⟩; have hc6 := (hb6.cell hl5).trans hc5))
  all_goals
    go_wp2_with fail
    go_ret
    exact ⟨ret_bool (by simp), (hbw4.drew.trans (hb5.mono hs4)).trans (hb6.mono (Nat.le_trans hs4 hs5))⟩

set_option maxHeartbeats 4000000 in
theorem codes_bad (vars : Int) (A : Option Addr) (cap : Nat) (l : List Tm) (regs : Int) (HA : Option Addr) (hcap : Nat) (xs : List Int) (w : World) (hx : RdT w w.heap.size A l) (hh : RdI w w.heap.size HA xs) (hhm : xs.length ≤ maxLen) (hr1 : 1 ≤ regs) (hr2 : regs ≤ 8) (ht : ckTree vars l = 0) (hn : ¬ regs < (ndA l (l.length - 1) : Int)) (hcv3 : Int) (hv : ckHave vars xs = hcv3) (hv3 : hcv3 = 3 ∨ hcv3 = 4) :
    Calls Try.prog 11 #[.int .i64 vars, .slice A l.length cap, .int .i64 regs, .slice HA xs.length hcap] w fun e w' => e = .returned (.bool true) ∧ Below w.heap.size w w' := by
  have HT := Lib.hid ht
  obtain ⟨hck, _, htl⟩ := ckTree_ok ht
  have HCK := Lib.hid hck
  obtain ⟨b1, b2, b3, b4⟩ := ckTerms_bd hck
  have hnr : needR vars l = (ndA l (l.length - 1) : Int) := by unfold needR; rw [if_pos ht]
  have hcv : (l.length : Int) - 1 = ((l.length - 1 : Nat) : Int) := by omega
  obtain ⟨rn, rfl⟩ := Int.eq_ofNat_of_zero_le (a := regs) (by omega)
  have HCC : Hid (ckCode vars l rn = 0) := Lib.hid (by unfold ckCode; rw [if_neg (by omega), if_pos ht, if_neg (by omega)])
  have HSC : Hid (ckSteps vars (codeL l) rn = 0) := Lib.hid (code_ok hck htl (by omega) (by omega))
  have HCL : Hid ((codeL l).length = l.length) := Lib.hid (code_len hck htl)
  have HRV : Hid ((runS (codeL l) rn xs)[0]? = some (valT l xs)) := Lib.hid (code_run xs hck (by omega))
  have hrn : 0 < rn := by omega
  have hn' : (ndA l (l.length - 1) : Int) ≤ rn := by omega
  clear ht hck htl hnr hn
  have HNE : Hid (∀ w : World, RdT w w.heap.size A l → Calls Try.prog 41 #[.slice A l.length cap, .int .i64 ((l.length - 1 : Nat) : Int)] w fun e w' => e = .returned (.int .i64 (ndA l (l.length - 1) : Nat)) ∧ w = w') :=
    Lib.hid fun w hx => refNeed_any vars A cap l HCK.out (l.length - 1) (by omega) w hx
  generalize hl : l.length = len at *
  have HL := Lib.hid hl
  clear hl
  generalize ndA l (len - 1) = nd at *
  have HV := Lib.hid hv
  clear hv
  rcases hv3 with rfl | rfl
  all_goals
    go_enter Try.func11, Try.ntmps11
    go_wp2_with fail
    refine (code_ok_any vars rn A _ cap l _ hx HL.out HCC.out).mono ?_
    rintro e w1 ⟨A1, c1, rfl, hr1, hb1⟩
    go_wp2_with fail
    refine (treeCode_any vars A _ cap l _ ((hx.below hb1 (Nat.le_refl _)).more hb1.size) HL.out).mono ?_
    rintro e w2 ⟨rfl, hb2⟩
    rw [HT.out]
    have hbw := hb1.trans (hb2.mono hb1.size)
    have hr2 := (hr1.below hb2 (Nat.le_refl _)).more hb2.size
    clear hr1 hb1 hb2
    go_wp2_with fail
    refine (HNE.out _ ((hx.below hbw (Nat.le_refl _)).more hbw.size)).mono ?_
    rintro e w3 ⟨rfl, rfl⟩
    go_wp2_with fail
    refine (stepsCheck_any vars rn A1 len c1 (codeL l) _ hr2 HCL.out).mono ?_
    rintro e w4 ⟨rfl, hb4⟩
    rw [HSC.out]
    have hbw4 := hbw.trans (hb4.mono hbw.size)
    have hr4 := (hr2.below hb4 (Nat.le_refl _)).more hb4.size
    have hx4 := (hx.below hbw4 (Nat.le_refl _)).more hbw4.size
    have hh4 := (hh.below hbw4 (Nat.le_refl _)).more hbw4.size
    have hs4 := hbw4.size
    clear hbw hb4 hr2
    obtain ⟨wo, rfl⟩ : ∃ x, x = w4 := ⟨_, rfl⟩
    go_wp2_with fail
    have hcall := fun (k : Nat) => (haveCheck_any vars HA _ hcap xs wo.heap.size (wo.drewN k) (show RdI (wo.drewN k) wo.heap.size HA xs from hh4) rfl hhm)
    rw [HV.out] at hcall
    go_quiet ((go_at_call 31; exact Calls.quiet_of_same ((hcall _).mono fun _ _ h => ⟨h.1, h.2.symm⟩)))
    all_goals
      go_wp2_with fail
      go_ret
      exact ⟨rfl, ⟨hbw4.os, hbw4.tape, hbw4.output, hbw4.size, hbw4.block⟩⟩

set_option maxHeartbeats 4000000 in
theorem codes_tree (vars : Int) (A : Option Addr) (cap : Nat) (l : List Tm) (regs : Int) (HA : Option Addr) (hcap : Nat) (xs : List Int) (w : World) (hx : RdT w w.heap.size A l) (hh : RdI w w.heap.size HA xs) (hhm : xs.length ≤ maxLen) (hr1 : 1 ≤ regs) (hr2 : regs ≤ 8) (ht : ¬ ckTree vars l = 0) :
    Calls Try.prog 11 #[.int .i64 vars, .slice A l.length cap, .int .i64 regs, .slice HA xs.length hcap] w fun e w' => e = .returned (.bool true) ∧ Below w.heap.size w w' := by
  have hcc : ckCode vars l regs = ckTree vars l := by unfold ckCode; rw [if_neg (by omega), if_neg ht]
  have HCN : Hid (ckCode vars l regs ≠ 0) := Lib.hid (by rw [hcc]; exact ht)
  have HCC := Lib.hid hcc
  have e1 : (ckTree vars l == 0) = false := by simp [ht]
  have e2 : (ckTree vars l != 0) = true := by simp [ht]
  clear ht hcc
  go_enter Try.func11, Try.ntmps11
  go_wp2_with fail
  refine (code_bad vars regs A _ cap l _ hx rfl HCN.out).mono ?_
  rintro e w1 ⟨rfl, hb1⟩
  rw [HCC.out]
  go_wp2_with fail
  refine (treeCode_any vars A _ cap l _ ((hx.below hb1 (Nat.le_refl _)).more hb1.size) rfl).mono ?_
  rintro e w2 ⟨rfl, hb2⟩
  go_wp2_with fail
  go_ret
  exact ⟨ret_bool (by simp), hb1.trans (hb2.mono hb1.size)⟩

theorem lawNeedCodes_any (vars : Int) (A : Option Addr) (cap : Nat) (l : List Tm) (regs : Int) (HA : Option Addr) (hcap : Nat) (xs : List Int) (w : World) (hx : RdT w w.heap.size A l) (hh : RdI w w.heap.size HA xs) (hhm : xs.length ≤ maxLen) :
    Calls Try.prog 11 #[.int .i64 vars, .slice A l.length cap, .int .i64 regs, .slice HA xs.length hcap] w fun e w' => e = .returned (.bool true) ∧ Below w.heap.size w w' := by
  by_cases hr : regs < 1 ∨ 8 < regs
  · exact codes_regs vars A cap l regs HA hcap xs w hx hh hhm hr
  · by_cases ht : ckTree vars l = 0
    · by_cases hn : regs < (ndA l (l.length - 1) : Int)
      · exact codes_few vars A cap l regs HA hcap xs w hx hh hhm (by omega) (by omega) ht hn
      · by_cases hv : ckHave vars xs = 0
        · exact codes_val vars A cap l regs HA hcap xs w hx hh hhm (by omega) (by omega) ht hn hv
        · exact codes_bad vars A cap l regs HA hcap xs w hx hh hhm (by omega) (by omega) ht hn _ rfl (ckHave_34 hv)
    · exact codes_tree vars A cap l regs HA hcap xs w hx hh hhm (by omega) (by omega) ht

set_option maxRecDepth 100000 in
theorem lawNeedCodes_lifted (os : Os) (started : os.Started) (H : Type) (enc : TypeId × Value → H) :
    ReturnsInHanded {} Try.checked os 11 .any (Rows.needCodesSpec.pre6 enc Try.prog Try.f11 Rows.needCodesRow.domain false) (Rows.needCodesSpec.post enc Try.prog Try.f11 false true false false) := by
  refine returnsInHanded_of_change_sized (C := Try.checked) Try.own started (by kernel_rfl) Try.func11
    (ChangeSpec.witness6 (enc := enc) (C := Try.checked) false ⟨#[], #[.int .i64 0, .slice none 0 0, .int .i64 0, .slice none 0 0], []⟩ 8 (by kernel_rfl) (by kernel_rfl) (by kernel_rfl) (by kernel_rfl)) ?_
  intro W base args ds gs before hval0 hW hcnd hsz _
  have hval : ∀ (j : Nat) t v, Try.f11.params[j]? = some t → args[j]? = some v → Value.okWide Try.prog W .any base t v := hval0
  have hW' := hW
  obtain ⟨p, q, hA0, hV, rfl, hfz, hnd⟩ := hW
  have hA : DataW.TrodAll enc Try.prog W 0 (fun _ => true) true Try.f11.params.toList args.toList ds p := hA0
  obtain ⟨hgs, _⟩ := trodVars_none hV
  rw [Try.params11] at hA hval
  obtain ⟨v0, vs0, d0, ds0, p0, q0, hargs, rfl, rfl, h0, r0⟩ := trodAll_cons hA
  obtain ⟨v1, vs1, d1, ds1, p1, q1, rfl, rfl, rfl, h1, r1⟩ := trodAll_cons r0
  obtain ⟨v2, vs2, d2, ds2, p2, q2, rfl, rfl, rfl, h2, r2⟩ := trodAll_cons r1
  obtain ⟨v3, vs3, d3, ds3, p3, q3, rfl, rfl, rfl, h3, r3⟩ := trodAll_cons r2
  obtain ⟨rfl, rfl, rfl⟩ := trodAll_nil r3
  have hargs2 : args = #[v0, v1, v2, v3] := Array.toList_inj.1 hargs
  subst hargs2
  obtain ⟨a0, rfl, _, _, w0⟩ := open_int Try.underlying3 (hval 0 3 v0 rfl rfl) h0
  obtain ⟨A1, c1, l1, rfl, lc1, cm1, x1, r1⟩ := open_termsA (hval 1 22 v1 rfl rfl) h1
  have b1 := len_reach Try.underlying22 (hval 1 22 _ rfl rfl) h1 hsz (j := 1) (by rw [Try.params11]; rfl) rfl
  rw [show Try.prog.bytesOf (Try.prog.elem 22) = 32 from by kernel_rfl] at b1
  obtain ⟨a2, rfl, _, _, w2⟩ := open_int Try.underlying3 (hval 2 3 v2 rfl rfl) h2
  obtain ⟨A3, c3, l3, rfl, lc3, cm3, x3, r3⟩ := open_intsA (hval 3 26 v3 rfl rfl) h3
  have b3 := len_reach Try.underlying26 (hval 3 26 _ rfl rfl) h3 hsz (j := 3) (by rw [Try.params11]; rfl) rfl
  rw [show Try.prog.bytesOf (Try.prog.elem 26) = 8 from by kernel_rfl] at b3
  refine (lawNeedCodes_any a0 A1 c1 l1 a2 A3 c3 l3 W x1 x3 (by omega)).mono fun e W' ⟨he, hb⟩ => ?_
  subst he
  exact ⟨_, rfl, law_post Try.laidOut rfl (by kernel_rfl) Try.underlying4 ⟨rfl, rfl, rfl⟩ (by kernel_rfl) hW' hb⟩

theorem needCodes_holds : Rows.NeedCodesSaid :=
  OpenClaim.holds_of_wide 11 Try.f11 rfl rfl rfl rfl rfl rfl rfl ⟨rfl, rfl, rfl, rfl, rfl⟩ rfl rfl rfl rfl rfl (by kernel_rfl) Try.func11 (show joinedFacts Try.prog 11 Try.f11 Rows.needCodesSpec Rows.needCodesRow = true from (by unfold joinedFacts; (repeat' (with_reducible refine and_both ?_ ?_)) <;> first | (with_reducible exact may_enter) | ((with_reducible refine make_ok ?_); rfl) | ((with_reducible refine lifts_ok ?_); rfl) | kernel_rfl))
    (of_decide_eq_true (by kernel_rfl)) (by unfold Func.isWrapper; rw [if_neg (of_decide_eq_false (by kernel_rfl))]; exact ⟨rfl, rfl⟩)
    (fun os started H enc _ => lawNeedCodes_lifted os started H enc)

end Go.Proofs.Ytppnckiedcbleaa
