/-
  The terms of stack code that leaves one value form a tree whose code it is: codemasonkeep.StackBack returns true for all arguments and leaves them alone. No condition.
-/
import Derived.Test.YtppnckiedcbleaaLawStack
import Derived.Deep.QuietTactic
import Derived.BigQuiet
namespace Go.Proofs.Ytppnckiedcbleaa
open Go.RowKit Go.ChangeShapes Go.WideShapes Go.ChangeAt Go.Deep
set_option linter.unusedSimpArgs false
set_option linter.unusedVariables false
set_option maxRecDepth 100000

set_option maxHeartbeats 4000000 in
theorem lawStackBack_any (vars : Int) (A : Option Addr) (cap : Nat) (c : List So) (w : World) (hx : RdO w w.heap.size A c) :
    Calls Try.prog 21 #[.int .i64 vars, .slice A c.length cap] w fun e w' => e = .returned (.bool true) ∧ Below w.heap.size w w' := by
  generalize hl : c.length = len at *
  have HL := Lib.hid hl
  by_cases h : ckBack vars c = 0
  · have HB := Lib.hid h
    obtain ⟨hk, h0, h16, h1⟩ := ckBack_ok h
    obtain ⟨v0, v6, c40, hcf⟩ := ckStk_ok hk
    obtain ⟨t1, t2, t3, t4⟩ := bk_tree v0 v6 hcf h0 h16 h1
    have ht := ckTree_of t2 (treeB_yes t3)
    have HT := Lib.hid ht
    have HE : Hid ((ckTree vars (bkL c) == 0) = true) := Lib.hid (by simp [ht])
    have HLB : Hid ((bkL c).length = len) := Lib.hid (by rw [t1, hl])
    have HLD : Hid (ldA (bkL c) ((bkL c).length - 1) = c.map nrm) := Lib.hid t4
    have HLM : Hid ((c.map nrm).length = len) := Lib.hid (by simp [hl])
    rw [hl] at h16
    clear h hk hcf t1 t2 t3 t4 ht h1 h0 c40 hl
    go_enter Try.func21, Try.ntmps21
    go_wp2_with fail
    refine (sback_ok vars A len cap c _ hx HL.out HB.out).mono ?_
    rintro e w1 ⟨A1, c1, rfl, hr1, hb1⟩
    go_wp2_with fail
    refine (treed_any vars A1 len c1 (bkL c) _ hr1 HLB.out).mono ?_
    rintro e w2 ⟨rfl, hb2⟩
    rw [HE.out]
    have hbw2 := hb1.trans (hb2.mono hb1.size)
    have hr2 := (hr1.below hb2 (Nat.le_refl _)).more hb2.size
    clear hb1 hb2 hr1
    go_wp2_with fail
    refine (scode_ok vars A1 len c1 (bkL c) _ hr2 HLB.out HT.out).mono ?_
    rintro e w3 ⟨A3, c3, rfl, hr3, hb3⟩
    rw [HLD.out] at hr3
    have hbw3 := hbw2.trans (hb3.mono hbw2.size)
    clear hbw2 hb3 hr2
    obtain ⟨wo, rfl⟩ : ∃ x, x = w3 := ⟨_, rfl⟩
    have hxo := (hx.below hbw3 (Nat.le_refl _)).more hbw3.size
    go_wp2_with fail
    go_loopw [49] (fun i wr => ∃ k : Nat, k ≤ len ∧ i = .int .i64 k ∧ Below wo.heap.size wo wr) (fun i _ => len - (intOf i).toNat)
    case atStart => exact ⟨0, Nat.zero_le _, rfl, Below.refl _ _⟩
    case round =>
      obtain ⟨k, hk, rfl, hb⟩ := hrel
      have hsz := hb.size
      by_cases hlt : k < len
      · obtain ⟨ad, o, v, rfl, hbl, hd, hc0, hc1⟩ := (hxo.below hb (Nat.le_refl _)).at_ (k := k) (by rw [HL.out]; exact hlt)
        obtain ⟨ad2, o2, v2, rfl, hbl2, hd2, hd0, hd1⟩ := (hr3.below hb (Nat.le_refl _)).at_ (k := k) (by rw [HLM.out]; exact hlt)
        rw [List.getElem?_map, hd] at hd2
        have hk0 : (0 : Int) ≤ (k : Int) := by omega
        have hk1 : (k : Int) < (len : Int) := by omega
        by_cases ho : 3 ≤ o
        · have e1 : (⟨o, 0⟩ : So) = ⟨o2, v2⟩ := by
            simp only [Option.map_some, nrm, if_pos ho] at hd2
            injection hd2
          injection e1 with e2 e3
          subst e2 e3
          have g1 : decide (o < 3) = false := by simp; omega
          have g2 : (o != o) = false := by simp
          clear hd hd2
          go_wp2
          go_quiet (fail)
          go_wp2
          go_round
          case rel => exact ⟨k + 1, by omega, by go_num, ⟨hb.os, hb.tape, hb.output, hb.size, hb.block⟩⟩
          case measure => (simp [intOf]; omega)
        · have e1 : (⟨o, v⟩ : So) = ⟨o2, v2⟩ := by
            simp only [Option.map_some, nrm, if_neg ho] at hd2
            injection hd2
          injection e1 with e2 e3
          subst e2 e3
          have g1 : decide (o < 3) = true := by simp; omega
          have g2 : (o != o) = false := by simp
          have g3 : (v != v) = false := by simp
          clear hd hd2
          go_wp2
          go_quiet (fail)
          go_wp2
          go_round
          case rel => exact ⟨k + 1, by omega, by go_num, ⟨hb.os, hb.tape, hb.output, hb.size, hb.block⟩⟩
          case measure => (simp [intOf]; omega)
      · go_wp2
        go_ret
        exact ⟨rfl, hbw3.trans (hb.mono hbw3.size)⟩
  · have e1 : (ckBack vars c != 0) = true := by simp [h]
    have HN := Lib.hid h
    clear h hl
    go_enter Try.func21, Try.ntmps21
    go_wp2_with fail
    refine (sback_bad vars A len cap c _ hx HL.out HN.out).mono ?_
    rintro e w1 ⟨rfl, hb1⟩
    go_wp2_with fail
    go_ret
    exact ⟨ret_bool (by simp), hb1⟩

set_option maxRecDepth 100000 in
theorem lawStackBack_lifted (os : Os) (started : os.Started) (H : Type) (enc : TypeId × Value → H) :
    ReturnsInHanded {} Try.checked os 21 .any (Rows.stackBackSpec.pre6 enc Try.prog Try.f21 Rows.stackBackRow.domain false) (Rows.stackBackSpec.post enc Try.prog Try.f21 false true false false) := by
  refine returnsInHanded_of_change_sized (C := Try.checked) Try.own started (by kernel_rfl) Try.func21
    (ChangeSpec.witness6 (enc := enc) (C := Try.checked) false ⟨#[], #[.int .i64 0, .slice none 0 0], []⟩ 8 (by kernel_rfl) (by kernel_rfl) (by kernel_rfl) (by kernel_rfl)) ?_
  intro W base args ds gs before hval0 hW hcnd hsz _
  have hval : ∀ (j : Nat) t v, Try.f21.params[j]? = some t → args[j]? = some v → Value.okWide Try.prog W .any base t v := hval0
  have hW' := hW
  obtain ⟨p, q, hA0, hV, rfl, hfz, hnd⟩ := hW
  have hA : DataW.TrodAll enc Try.prog W 0 (fun _ => true) true Try.f21.params.toList args.toList ds p := hA0
  obtain ⟨hgs, _⟩ := trodVars_none hV
  rw [Try.params21] at hA hval
  obtain ⟨v0, vs0, d0, ds0, p0, q0, hargs, rfl, rfl, h0, r0⟩ := trodAll_cons hA
  obtain ⟨v1, vs1, d1, ds1, p1, q1, rfl, rfl, rfl, h1, r1⟩ := trodAll_cons r0
  obtain ⟨rfl, rfl, rfl⟩ := trodAll_nil r1
  have hargs2 : args = #[v0, v1] := Array.toList_inj.1 hargs
  subst hargs2
  obtain ⟨a0, rfl, _, _, w0⟩ := open_int Try.underlying3 (hval 0 3 v0 rfl rfl) h0
  obtain ⟨A1, c1, l1, rfl, lc1, cm1, x1, r1⟩ := open_sopsA (hval 1 66 v1 rfl rfl) h1
  have b1 := len_reach Try.underlying66 (hval 1 66 _ rfl rfl) h1 hsz (j := 1) (by rw [Try.params21]; rfl) rfl
  rw [show Try.prog.bytesOf (Try.prog.elem 66) = 16 from by kernel_rfl] at b1
  refine (lawStackBack_any a0 A1 c1 l1 W x1).mono fun e W' ⟨he, hb⟩ => ?_
  subst he
  exact ⟨_, rfl, law_post Try.laidOut rfl (by kernel_rfl) Try.underlying4 ⟨rfl, rfl, rfl⟩ (by kernel_rfl) hW' hb⟩

theorem stackBack_holds : Rows.StackBackSaid :=
  OpenClaim.holds_of_wide 21 Try.f21 rfl rfl rfl rfl rfl rfl rfl ⟨rfl, rfl, rfl, rfl, rfl⟩ rfl rfl rfl rfl rfl (by kernel_rfl) Try.func21 (show joinedFacts Try.prog 21 Try.f21 Rows.stackBackSpec Rows.stackBackRow = true from (by unfold joinedFacts; (repeat' (with_reducible refine and_both ?_ ?_)) <;> first | (with_reducible exact may_enter) | ((with_reducible refine make_ok ?_); rfl) | ((with_reducible refine lifts_ok ?_); rfl) | kernel_rfl))
    (of_decide_eq_true (by kernel_rfl)) (by unfold Func.isWrapper; rw [if_neg (of_decide_eq_false (by kernel_rfl))]; exact ⟨rfl, rfl⟩)
    (fun os started H enc _ => lawStackBack_lifted os started H enc)

end Go.Proofs.Ytppnckiedcbleaa
