/-
  The stack holds exactly the value of the tree behind its stack code: codemasonkeep.StackSame returns true for all arguments and leaves them alone. No condition.
-/
import Derived.Test.YtppnckiedcbleaaLawStack
import Derived.Test.YtppnckiedcbleaaTermValue
namespace Go.Proofs.Ytppnckiedcbleaa
open Go.RowKit Go.ChangeShapes Go.WideShapes Go.ChangeAt Go.Deep
set_option linter.unusedSimpArgs false
set_option linter.unusedVariables false
set_option maxRecDepth 100000

theorem rdI_head {w : World} {B : Nat} {A : Option Addr} {x : Int} (h : RdI w B A [x]) : ∃ ad : Addr, A = some ad ∧ w.cell? ad = some (.int .i64 x) := by
  obtain ⟨ad, y, hA, hb, hx, hc⟩ := h.at_ (k := 0) (by simp)
  simp at hx
  subst hx
  refine ⟨ad, hA, ?_⟩
  have : ad.add 0 = ad := by unfold Addr.add; simp
  rw [this] at hc
  exact hc

set_option maxHeartbeats 4000000 in
theorem lawStackSame_any (vars : Int) (A : Option Addr) (cap : Nat) (l : List Tm) (HA : Option Addr) (hcap : Nat) (xs : List Int) (w : World) (hx : RdT w w.heap.size A l) (hh : RdI w w.heap.size HA xs) (hhm : xs.length ≤ maxLen) :
    Calls Try.prog 20 #[.int .i64 vars, .slice A l.length cap, .slice HA xs.length hcap] w fun e w' => e = .returned (.bool true) ∧ Below w.heap.size w w' := by
  generalize hl : l.length = len at *
  have HL := Lib.hid hl
  clear hl
  by_cases h : ckTree vars l = 0
  · have HT := Lib.hid h
    obtain ⟨hck, _, htl⟩ := ckTree_ok h
    obtain ⟨b1, b2, b3, b4⟩ := ckTerms_bd hck
    have HCK := Lib.hid hck
    have HE0 : Hid ((ckTree vars l == 0) = true) := Lib.hid (by simp [h])
    have HSC : Hid (ckStk vars (ldA l (l.length - 1)) = 0) := Lib.hid (ckStk_of b1 (ld_ok hck htl (.inl rfl)))
    have HCL : Hid ((ldA l (l.length - 1)).length = len) := Lib.hid (by rw [ld_root_len hck htl, HL.out])
    have HRV : Hid (stkF xs (ldA l (l.length - 1)) [] = [valT l xs]) := Lib.hid (ld_val xs hck)
    rw [HL.out] at b3 b4
    clear h hck htl
    by_cases hv : ckHave vars xs = 0
    · have HV := Lib.hid hv
      have HE1 : Hid ((ckHave vars xs == 0) = true) := Lib.hid (by simp [hv])
      clear hv
      go_enter Try.func20, Try.ntmps20
      go_wp2_with fail
      refine (scode_ok vars A _ cap l _ hx HL.out HT.out).mono ?_
      rintro e w1 ⟨A1, c1, rfl, hr1, hb1⟩
      go_wp2_with fail
      refine (value_ok vars A HA _ cap hcap l xs _ ((hx.below hb1 (Nat.le_refl _)).more hb1.size) ((hh.below hb1 (Nat.le_refl _)).more hb1.size) HL.out HCK.out HV.out).mono ?_
      rintro e w2 ⟨rfl, hb2⟩
      have hr2 := (hr1.below hb2 (Nat.le_refl _)).more hb2.size
      have hbw2 := hb1.trans (hb2.mono hb1.size)
      clear hb1 hb2 hr1
      go_wp2_with fail
      refine (treed_any vars A _ cap l _ ((hx.below hbw2 (Nat.le_refl _)).more hbw2.size) HL.out).mono ?_
      rintro e w3 ⟨rfl, hb3⟩
      rw [HE0.out]
      have hr3 := (hr2.below hb3 (Nat.le_refl _)).more hb3.size
      have hbw3 := hbw2.trans (hb3.mono hbw2.size)
      clear hbw2 hb3 hr2
      go_wp2_with fail
      refine (given_any vars HA _ hcap xs _ _ (hh.below hbw3 (Nat.le_refl _)) rfl hhm).mono ?_
      rintro e w4 ⟨rfl, rfl⟩
      rw [HE1.out]
      go_wp2_with fail
      refine (srun_ok vars A1 HA len c1 hcap (ldA l (l.length - 1)) xs w3 hr3 ((hh.below hbw3 (Nat.le_refl _)).more hbw3.size) HCL.out HSC.out HV.out).mono ?_
      rintro e w5 ⟨A5, c5, rfl, hr5, hb5⟩
      rw [HRV.out] at hr5 ⊢
      obtain ⟨ad5, rfl, hc5⟩ := rdI_head hr5
      have hc5' : w5.cell? (ad5.add 0) = some (.int .i64 (valT l xs)) := by
        have : ad5.add 0 = ad5 := by unfold Addr.add; simp
        rw [this]; exact hc5
      clear hr5
      go_wp2_with fail
      go_ret
      exact ⟨ret_bool (by simp), hbw3.trans (hb5.mono hbw3.size)⟩
    · have HE1 : Hid ((ckHave vars xs == 0) = false) := Lib.hid (by simp [hv])
      have e2 : (ckHave vars xs != 0) = true := by simp [hv]
      have HVV : Hid (ckVal vars l xs = ckHave vars xs) := Lib.hid (by unfold ckVal; rw [if_pos HCK.out])
      have HVN : Hid (ckTerms vars l ≠ 0 ∨ ckHave vars xs ≠ 0) := Lib.hid (.inr hv)
      clear hv
      go_enter Try.func20, Try.ntmps20
      go_wp2_with fail
      refine (scode_ok vars A _ cap l _ hx HL.out HT.out).mono ?_
      rintro e w1 ⟨A1, c1, rfl, hr1, hb1⟩
      go_wp2_with fail
      refine (value_bad vars A HA _ cap hcap l xs _ ((hx.below hb1 (Nat.le_refl _)).more hb1.size) ((hh.below hb1 (Nat.le_refl _)).more hb1.size) HL.out hhm HVN.out).mono ?_
      rintro e w2 ⟨rfl, hb2⟩
      rw [HVV.out]
      have hbw2 := hb1.trans (hb2.mono hb1.size)
      clear hb1 hb2 hr1
      go_wp2_with fail
      refine (treed_any vars A _ cap l _ ((hx.below hbw2 (Nat.le_refl _)).more hbw2.size) HL.out).mono ?_
      rintro e w3 ⟨rfl, hb3⟩
      rw [HE0.out]
      have hbw3 := hbw2.trans (hb3.mono hbw2.size)
      clear hbw2 hb3
      go_wp2_with fail
      refine (given_any vars HA _ hcap xs _ _ (hh.below hbw3 (Nat.le_refl _)) rfl hhm).mono ?_
      rintro e w4 ⟨rfl, rfl⟩
      rw [HE1.out]
      go_wp2_with fail
      go_ret
      exact ⟨ret_bool (by simp), hbw3⟩
  · have e1 : (ckTree vars l != 0) = true := by simp [h]
    have HE0 : Hid ((ckTree vars l == 0) = false) := Lib.hid (by simp [h])
    have HN := Lib.hid h
    clear h
    go_enter Try.func20, Try.ntmps20
    go_wp2_with fail
    refine (scode_bad vars A _ cap l _ hx HL.out HN.out).mono ?_
    rintro e w1 ⟨rfl, hb1⟩
    go_wp2_with fail
    refine (value_any vars A HA _ cap _ hcap l xs _ ((hx.below hb1 (Nat.le_refl _)).more hb1.size) ((hh.below hb1 (Nat.le_refl _)).more hb1.size) HL.out rfl hhm).mono ?_
    rintro e w2 ⟨rfl, hb2⟩
    have hbw2 := hb1.trans (hb2.mono hb1.size)
    clear hb1 hb2
    go_wp2_with fail
    refine (treed_any vars A _ cap l _ ((hx.below hbw2 (Nat.le_refl _)).more hbw2.size) HL.out).mono ?_
    rintro e w3 ⟨rfl, hb3⟩
    rw [HE0.out]
    go_wp2_with fail
    go_ret
    exact ⟨ret_bool (by simp), hbw2.trans (hb3.mono hbw2.size)⟩

set_option maxRecDepth 100000 in
theorem lawStackSame_lifted (os : Os) (started : os.Started) (H : Type) (enc : TypeId × Value → H) :
    ReturnsInHanded {} Try.checked os 20 .any (Rows.stackSameSpec.pre6 enc Try.prog Try.f20 Rows.stackSameRow.domain false) (Rows.stackSameSpec.post enc Try.prog Try.f20 false true false false) := by
  refine returnsInHanded_of_change_sized (C := Try.checked) Try.own started (by kernel_rfl) Try.func20
    (ChangeSpec.witness6 (enc := enc) (C := Try.checked) false ⟨#[], #[.int .i64 0, .slice none 0 0, .slice none 0 0], []⟩ 8 (by kernel_rfl) (by kernel_rfl) (by kernel_rfl) (by kernel_rfl)) ?_
  intro W base args ds gs before hval0 hW hcnd hsz _
  have hval : ∀ (j : Nat) t v, Try.f20.params[j]? = some t → args[j]? = some v → Value.okWide Try.prog W .any base t v := hval0
  have hW' := hW
  obtain ⟨p, q, hA0, hV, rfl, hfz, hnd⟩ := hW
  have hA : DataW.TrodAll enc Try.prog W 0 (fun _ => true) true Try.f20.params.toList args.toList ds p := hA0
  obtain ⟨hgs, _⟩ := trodVars_none hV
  rw [Try.params20] at hA hval
  obtain ⟨v0, vs0, d0, ds0, p0, q0, hargs, rfl, rfl, h0, r0⟩ := trodAll_cons hA
  obtain ⟨v1, vs1, d1, ds1, p1, q1, rfl, rfl, rfl, h1, r1⟩ := trodAll_cons r0
  obtain ⟨v2, vs2, d2, ds2, p2, q2, rfl, rfl, rfl, h2, r2⟩ := trodAll_cons r1
  obtain ⟨rfl, rfl, rfl⟩ := trodAll_nil r2
  have hargs2 : args = #[v0, v1, v2] := Array.toList_inj.1 hargs
  subst hargs2
  obtain ⟨a0, rfl, _, _, w0⟩ := open_int Try.underlying3 (hval 0 3 v0 rfl rfl) h0
  obtain ⟨A1, c1, l1, rfl, lc1, cm1, x1, r1⟩ := open_termsA (hval 1 22 v1 rfl rfl) h1
  have b1 := len_reach Try.underlying22 (hval 1 22 _ rfl rfl) h1 hsz (j := 1) (by rw [Try.params20]; rfl) rfl
  rw [show Try.prog.bytesOf (Try.prog.elem 22) = 32 from by kernel_rfl] at b1
  obtain ⟨A2, c2, l2, rfl, lc2, cm2, x2, r2⟩ := open_intsA (hval 2 26 v2 rfl rfl) h2
  have b2 := len_reach Try.underlying26 (hval 2 26 _ rfl rfl) h2 hsz (j := 2) (by rw [Try.params20]; rfl) rfl
  rw [show Try.prog.bytesOf (Try.prog.elem 26) = 8 from by kernel_rfl] at b2
  refine (lawStackSame_any a0 A1 c1 l1 A2 c2 l2 W x1 x2 (by omega)).mono fun e W' ⟨he, hb⟩ => ?_
  subst he
  exact ⟨_, rfl, law_post Try.laidOut rfl (by kernel_rfl) Try.underlying4 ⟨rfl, rfl, rfl⟩ (by kernel_rfl) hW' hb⟩

theorem stackSame_holds : Rows.StackSameSaid :=
  OpenClaim.holds_of_wide 20 Try.f20 rfl rfl rfl rfl rfl rfl rfl ⟨rfl, rfl, rfl, rfl, rfl⟩ rfl rfl rfl rfl rfl (by kernel_rfl) Try.func20 (show joinedFacts Try.prog 20 Try.f20 Rows.stackSameSpec Rows.stackSameRow = true from (by unfold joinedFacts; (repeat' (with_reducible refine and_both ?_ ?_)) <;> first | (with_reducible exact may_enter) | ((with_reducible refine make_ok ?_); rfl) | ((with_reducible refine lifts_ok ?_); rfl) | kernel_rfl))
    (of_decide_eq_true (by kernel_rfl)) (by unfold Func.isWrapper; rw [if_neg (of_decide_eq_false (by kernel_rfl))]; exact ⟨rfl, rfl⟩)
    (fun os started H enc _ => lawStackSame_lifted os started H enc)

end Go.Proofs.Ytppnckiedcbleaa
